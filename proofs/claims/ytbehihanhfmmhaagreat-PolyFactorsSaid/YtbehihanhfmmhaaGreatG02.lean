/- Walks and plain mathematics: WalkInt, Inv, WalkInv, WalkDiv, FacStep. -/
import Derived.Test.YtbehihanhfmmhaaGreatG01
import Derived.Deep.QuietTactic
import Derived.BigQuiet
namespace Go.Proofs.YtbehihanhfmmhaaGreat
open Go.RowKit

theorem ret_b {a b : Bool} (h : a = b) : Ending.returned (.bool a) = .returned (.bool b) := by rw [h]

theorem isNumber_yes (n : Int) (w : World) (h1 : 1 ≤ n) (h2 : n ≤ 2147483647) : Calls Tryz.prog 73 #[.int .i64 n] w fun e w' => e = .returned (.bool true) ∧ w = w' := by
  go_enter Tryz.func73, Tryz.ntmps73
  go_wp2
  go_ret
  exact ⟨rfl, rfl⟩
theorem isNumber_no (n : Int) (w : World) (h : n < 1 ∨ 2147483647 < n) : Calls Tryz.prog 73 #[.int .i64 n] w fun e w' => e = .returned (.bool false) ∧ w = w' := by
  rcases h with h | h
  · go_enter Tryz.func73, Tryz.ntmps73
    go_wp2
    go_ret
    exact ⟨rfl, rfl⟩
  · have h1 : 1 ≤ n := by omega
    have h2 : decide (n ≤ 2147483647) = false := by simp; omega
    go_enter Tryz.func73, Tryz.ntmps73
    go_wp2
    go_ret
    exact ⟨rfl, rfl⟩
theorem Number_yes (n : Int) (w : World) (h1 : 1 ≤ n) (h2 : n ≤ 2147483647) : Calls Tryz.prog 46 #[.int .i64 n] w fun e w' => e = .returned (.bool true) ∧ w = w' := by
  go_enter Tryz.func46, Tryz.ntmps46
  go_wp2
  go_ret
  exact ⟨rfl, rfl⟩
theorem Number_no (n : Int) (w : World) (h : n < 1 ∨ 2147483647 < n) : Calls Tryz.prog 46 #[.int .i64 n] w fun e w' => e = .returned (.bool false) ∧ w = w' := by
  rcases h with h | h
  · go_enter Tryz.func46, Tryz.ntmps46
    go_wp2
    go_ret
    exact ⟨rfl, rfl⟩
  · have h1 : 1 ≤ n := by omega
    have h2 : decide (n ≤ 2147483647) = false := by simp; omega
    go_enter Tryz.func46, Tryz.ntmps46
    go_wp2
    go_ret
    exact ⟨rfl, rfl⟩

/-- Whether a is a rest modulo the number m. -/
theorem isRest_yes (a m : Int) (w : World) (h0 : 0 ≤ a) (h1 : a < m) (h2 : m ≤ 2147483647) : Calls Tryz.prog 75 #[.int .i64 a, .int .i64 m] w fun e w' => e = .returned (.bool true) ∧ w = w' := by
  go_enter Tryz.func75, Tryz.ntmps75
  go_wp2_with (go_at_call 73; refine (isNumber_yes _ _ (by omega) (by omega)).mono ?_; rintro e w' ⟨rfl, rfl⟩)
  go_ret
  exact ⟨rfl, rfl⟩
theorem isRest_no (a m : Int) (w : World) (h : ¬ (0 ≤ a ∧ a < m ∧ m ≤ 2147483647)) : Calls Tryz.prog 75 #[.int .i64 a, .int .i64 m] w fun e w' => e = .returned (.bool false) ∧ w = w' := by
  by_cases hm : m < 1 ∨ 2147483647 < m
  · go_enter Tryz.func75, Tryz.ntmps75
    go_wp2_with (go_at_call 73; refine (isNumber_no _ _ hm).mono ?_; rintro e w' ⟨rfl, rfl⟩)
    go_ret
    exact ⟨rfl, rfl⟩
  · have hm1 : 1 ≤ m := by omega
    have hm2 : m ≤ 2147483647 := by omega
    by_cases ha : 0 ≤ a
    · have h3 : decide (a < m) = false := by simp; omega
      clear hm h
      go_enter Tryz.func75, Tryz.ntmps75
      go_wp2_with (go_at_call 73; refine (isNumber_yes _ _ (by omega) (by omega)).mono ?_; rintro e w' ⟨rfl, rfl⟩)
      go_ret
      exact ⟨rfl, rfl⟩
    · clear hm h
      go_enter Tryz.func75, Tryz.ntmps75
      go_wp2_with (go_at_call 73; refine (isNumber_yes _ _ (by omega) (by omega)).mono ?_; rintro e w' ⟨rfl, rfl⟩)
      go_ret
      exact ⟨rfl, rfl⟩

/-! ### The greatest common divisor -/
def gcdI (a b : Int) : Int := ((Nat.gcd a.toNat b.toNat : Nat) : Int)

theorem gcd_step (a b : Int) (ha : 0 ≤ a) (hb : 0 < b) : Nat.gcd b.toNat (a % b).toNat = Nat.gcd a.toNat b.toNat := by
  obtain ⟨x, rfl⟩ := Int.eq_ofNat_of_zero_le ha
  obtain ⟨y, rfl⟩ := Int.eq_ofNat_of_zero_le (show 0 ≤ b by omega)
  have : ((x : Int) % (y : Int)).toNat = x % y := by exact_mod_cast Int.toNat_natCast (x % y)
  rw [this, Int.toNat_natCast, Int.toNat_natCast, Nat.gcd_comm y, ← Nat.gcd_rec, Nat.gcd_comm]

theorem emod_bd (a b : Int) (hb : 0 < b) : 0 ≤ a % b ∧ a % b < b := ⟨Int.emod_nonneg _ (by omega), Int.emod_lt_of_pos _ hb⟩

set_option maxHeartbeats 400000 in
theorem gcd_any (a b : Int) (w : World) (ha : 0 ≤ a) (ha2 : a ≤ 9223372036854775807) (hb : 0 ≤ b) (hb2 : b ≤ 9223372036854775807) :
    Calls Tryz.prog 76 #[.int .i64 a, .int .i64 b] w fun e w' => e = .returned (.int .i64 (gcdI a b)) ∧ ∃ n, w' = w.drewN n := by
  go_enter Tryz.func76, Tryz.ntmps76
  go_wp2
  go_loopw [0, 1] (fun x y wr => ∃ (A B : Int) (n : Nat), x = .int .i64 A ∧ y = .int .i64 B ∧ wr = w.drewN n ∧ 0 ≤ A ∧ A ≤ 9223372036854775807 ∧ 0 ≤ B ∧ B ≤ 9223372036854775807 ∧ Hid (Nat.gcd A.toNat B.toNat = Nat.gcd a.toNat b.toNat)) (fun _ y _ => (intOf y).toNat)
  case atStart => exact ⟨a, b, 0, rfl, rfl, rfl, ha, ha2, hb, hb2, rfl⟩
  case round =>
    obtain ⟨A, B, n, rfl, rfl, rfl, hA, hA2, hB, hB2, HG⟩ := hrel
    by_cases h0 : 0 < B
    · have hb1 := emod_bd A B h0
      have hne : ((B : Int) == 0) = false := by simp; omega
      have hne2 : ((B : Int) != 0) = true := by simp; omega
      have HS := Lib.hid (gcd_step A B hA h0)
      go_wp2
      go_quiet (fail)
      go_wp2
      go_roundw
      case rel => exact ⟨B, A % B, _, rfl, rfl, World.drewN_drewN .., hB, hB2, hb1.1, by omega, HS.out.trans HG.out⟩
      case measure => simp [intOf]; omega
    · obtain rfl : B = 0 := by omega
      go_wp2
      go_ret
      exact ⟨ret_i (by have := HG.out; rw [Int.toNat_zero, Nat.gcd_zero_right] at this; unfold gcdI; omega), _, rfl⟩

set_option maxHeartbeats 400000 in
theorem Gcd_any (a b : Int) (w : World) (ha : 0 ≤ a) (ha2 : a ≤ 9223372036854775807) (hb : 0 ≤ b) (hb2 : b ≤ 9223372036854775807) :
    Calls Tryz.prog 72 #[.int .i64 a, .int .i64 b] w fun e w' => e = .returned (.int .i64 (gcdI a b)) ∧ w = w' := by
  go_enter Tryz.func72, Tryz.ntmps72
  go_wp2
  go_loop [0, 1] (fun x y => ∃ A B : Int, x = .int .i64 A ∧ y = .int .i64 B ∧ 0 ≤ A ∧ A ≤ 9223372036854775807 ∧ 0 ≤ B ∧ B ≤ 9223372036854775807 ∧ Hid (Nat.gcd A.toNat B.toNat = Nat.gcd a.toNat b.toNat)) (fun _ y => (intOf y).toNat)
  case atStart => exact ⟨a, b, rfl, rfl, ha, ha2, hb, hb2, rfl⟩
  case round =>
    obtain ⟨A, B, rfl, rfl, hA, hA2, hB, hB2, HG⟩ := hrel
    by_cases h0 : 0 < B
    · have hb1 := emod_bd A B h0
      have HS := Lib.hid (gcd_step A B hA h0)
      go_wp2
      go_round
      case rel => exact ⟨B, A % B, rfl, rfl, hB, hB2, hb1.1, by omega, HS.out.trans HG.out⟩
      case measure => simp [intOf]; omega
    · obtain rfl : B = 0 := by omega
      go_wp2
      go_ret
      exact ⟨ret_i (by have := HG.out; rw [Int.toNat_zero, Nat.gcd_zero_right] at this; unfold gcdI; omega), rfl⟩

/-! ### The reference's power -/
end Go.Proofs.YtbehihanhfmmhaaGreat
namespace Go.Proofs.YtbehihanhfmmhaaGreat.M

structure Eu (a m r s x y : Int) : Prop where
  r0 : 1 ≤ r
  s0 : 0 ≤ s
  sr : s < r
  rm : r ≤ m
  gcd : Nat.gcd r.toNat s.toNat = 1
  dx : m ∣ x * a - r
  dy : m ∣ y * a - s
  sgn : (x ≤ 0 ∧ 0 ≤ y ∧ -x * s + y * r = m) ∨ (0 ≤ x ∧ y ≤ 0 ∧ x * s - y * r = m)
  xb : -m ≤ 2 * x ∧ 2 * x ≤ m

theorem Eu.start {a m : Int} (ha : 0 ≤ a) (ham : a < m) (hg : Nat.gcd a.toNat m.toNat = 1) : Eu a m m a 0 1 :=
  ⟨by omega, ha, ham, by omega, by rw [Nat.gcd_comm]; exact hg, by simp, by simp, .inl ⟨by omega, by omega, by simp⟩, by omega⟩

theorem Eu.ybound {a m r s x y : Int} (h : Eu a m r s x y) (hs : 0 < s) : -m ≤ 2 * y ∧ 2 * y ≤ m := by
  have hr : 2 ≤ r := by have := h.sr; omega
  rcases h.sgn with ⟨h1, h2, h3⟩ | ⟨h1, h2, h3⟩
  · have h4 : 0 ≤ -x * s := Int.mul_nonneg (by omega) (by omega)
    have h5 : y * 2 ≤ y * r := Int.mul_le_mul_of_nonneg_left hr h2
    omega
  · have h4 : 0 ≤ x * s := Int.mul_nonneg (by omega) (by omega)
    have h5 : -y * 2 ≤ -y * r := Int.mul_le_mul_of_nonneg_left hr (by omega)
    have h6 : -y * r = -(y * r) := Int.neg_mul ..
    omega

/-- All that a round computes is in range. -/
theorem Eu.step {a m r s x y : Int} (h : Eu a m r s x y) (hs : 0 < s) :
    0 ≤ r / s ∧ r / s ≤ r ∧ 0 ≤ r / s * s ∧ r / s * s ≤ r ∧ -m ≤ r / s * y ∧ r / s * y ≤ m ∧ -m ≤ x - r / s * y ∧ x - r / s * y ≤ m ∧ Eu a m s (r - r / s * s) y (x - r / s * y) := by
  have hr0 := h.r0
  have hq0 : 0 ≤ r / s := Int.ediv_nonneg (by omega) (by omega)
  have hq1 : r / s ≤ r := Int.ediv_le_self _ (by omega)
  have hdm := Int.mul_ediv_add_emod r s
  have hm0 := Int.emod_nonneg r (show s ≠ 0 by omega)
  have hm1 := Int.emod_lt_of_pos r hs
  have hcomm : s * (r / s) = r / s * s := Int.mul_comm ..
  have hgs : Nat.gcd s.toNat (r % s).toNat = 1 := by
    have h1 := h.gcd
    obtain ⟨R, rfl⟩ := Int.eq_ofNat_of_zero_le (show 0 ≤ r by omega)
    obtain ⟨S, rfl⟩ := Int.eq_ofNat_of_zero_le (show 0 ≤ s by omega)
    have e : ((R : Int) % (S : Int)).toNat = R % S := by exact_mod_cast Int.toNat_natCast (R % S)
    rw [e, Int.toNat_natCast, Nat.gcd_comm, ← Nat.gcd_rec, Nat.gcd_comm]
    exact h1
  have he : r - r / s * s = r % s := by omega
  have hyb := h.ybound hs
  have hdx := h.dx
  have hdy := h.dy
  generalize r / s = q at *
  have hsgn : ((y ≤ 0 ∧ 0 ≤ x - q * y ∧ -y * (r - q * s) + (x - q * y) * s = m) ∨ (0 ≤ y ∧ x - q * y ≤ 0 ∧ y * (r - q * s) - (x - q * y) * s = m)) := by
    rcases h.sgn with ⟨h1, h2, h3⟩ | ⟨h1, h2, h3⟩
    · right
      have : 0 ≤ q * y := Int.mul_nonneg hq0 h2
      exact ⟨h2, by omega, by grind⟩
    · left
      have : 0 ≤ q * -y := Int.mul_nonneg hq0 (by omega)
      have e : q * -y = -(q * y) := Int.mul_neg ..
      exact ⟨h2, by omega, by grind⟩
  have hb : -m ≤ x - q * y ∧ x - q * y ≤ m ∧ -m ≤ q * y ∧ q * y ≤ m := by
    have hrs0 : 0 ≤ r - q * s := by omega
    rcases hsgn with ⟨h1, h2, h3⟩ | ⟨h1, h2, h3⟩
    · have h4 : 0 ≤ -y * (r - q * s) := Int.mul_nonneg (by omega) hrs0
      have h5 : (x - q * y) * 1 ≤ (x - q * y) * s := Int.mul_le_mul_of_nonneg_left (by omega) h2
      rcases h.sgn with ⟨h6, h7, _⟩ | ⟨h6, h7, _⟩
      · have : 0 ≤ q * y := Int.mul_nonneg hq0 h7
        omega
      · have : 0 ≤ q * -y := Int.mul_nonneg hq0 (by omega)
        have e : q * -y = -(q * y) := Int.mul_neg ..
        omega
    · have h4 : 0 ≤ y * (r - q * s) := Int.mul_nonneg (by omega) hrs0
      have h5 : -(x - q * y) * 1 ≤ -(x - q * y) * s := Int.mul_le_mul_of_nonneg_left (by omega) (by omega)
      have h6 : -(x - q * y) * s = -((x - q * y) * s) := Int.neg_mul ..
      rcases h.sgn with ⟨h7, h8, _⟩ | ⟨h7, h8, _⟩
      · have : 0 ≤ q * y := Int.mul_nonneg hq0 h8
        omega
      · have : 0 ≤ q * -y := Int.mul_nonneg hq0 (by omega)
        have e : q * -y = -(q * y) := Int.mul_neg ..
        omega
  refine ⟨hq0, hq1, Int.mul_nonneg hq0 (by omega), by omega, hb.2.2.1, hb.2.2.2, hb.1, hb.2.1, ?_⟩
  refine ⟨by omega, by omega, by omega, by have := h.sr; have := h.rm; omega, by rw [he]; exact hgs, hdy, ?_, hsgn, hyb⟩
  have : (x - q * y) * a - (r - q * s) = (x * a - r) - q * (y * a - s) := by grind
  rw [this]
  exact Int.dvd_sub hdx (Int.dvd_trans hdy (Int.dvd_mul_left _ _))

theorem inv_unique {a m v i : Int} (hv0 : 0 ≤ v) (hvm : v < m) (hi0 : 0 ≤ i) (him : i < m) (hv : m ∣ v * a - 1) (hi : a * i % m = 1 % m) : v = i := by
  have h1 : m ∣ a * i - 1 := by
    have := Int.emod_emod_of_dvd
    exact Int.dvd_of_emod_eq_zero (by rw [Int.sub_emod, hi, Int.sub_self, Int.zero_emod])
  have h2 : m ∣ v - i := by
    have : v - i = (a * i - 1) * (-v) + (v * a - 1) * i := by grind
    rw [this]
    exact Int.dvd_add (Int.dvd_trans h1 (Int.dvd_mul_right _ _)) (Int.dvd_trans hv (Int.dvd_mul_right _ _))
  obtain ⟨k, hk⟩ := h2
  rcases (show k < 0 ∨ k = 0 ∨ 0 < k by omega) with h | h | h
  · have : m * k ≤ m * (-1) := Int.mul_le_mul_of_nonneg_left (by omega) (by omega)
    omega
  · subst h; simp at hk; omega
  · have : m * 1 ≤ m * k := Int.mul_le_mul_of_nonneg_left (by omega) (by omega)
    omega

theorem Eu.finish {a m r x y i : Int} (h : Eu a m r 0 x y) (hi0 : 0 ≤ i) (him : i < m) (hi : a * i % m = 1 % m) : (x < 0 → x + m = i) ∧ (0 ≤ x → x = i) ∧ -m < x ∧ x < m := by
  have hr : r = 1 := by
    have := h.gcd
    rw [Int.toNat_zero, Nat.gcd_zero_right] at this
    have := h.r0
    omega
  subst hr
  have hb := h.xb
  have hm : -m < x ∧ x < m := by omega
  refine ⟨fun h0 => ?_, fun h0 => ?_, hm.1, hm.2⟩
  · refine inv_unique (by omega) (by omega) hi0 him ?_ hi
    have : (x + m) * a - 1 = (x * a - 1) + m * a := by grind
    rw [this]
    exact Int.dvd_add h.dx (Int.dvd_mul_right _ _)
  · exact inv_unique h0 hm.2 hi0 him h.dx hi

/-- There is an inverse. -/
theorem exists_inv {a m : Int} (ha : 0 ≤ a) (ham : a < m) (hg : Nat.gcd a.toNat m.toNat = 1) : ∃ i, 0 ≤ i ∧ i < m ∧ a * i % m = 1 % m := by
  obtain ⟨A, rfl⟩ := Int.eq_ofNat_of_zero_le ha
  obtain ⟨N, rfl⟩ := Int.eq_ofNat_of_zero_le (show 0 ≤ m by omega)
  simp only [Int.toNat_natCast] at hg
  obtain ⟨l, hl⟩ := exists_fac N (by omega)
  have h1 := hl.1.euler (a := A) (by rw [hl.2]; exact hg)
  rw [hl.2] at h1
  have h2 := hl.1.phi_pos
  refine ⟨((A ^ (phiP l - 1) % N : Nat) : Int), by omega, by have := Nat.mod_lt (A ^ (phiP l - 1)) (show 0 < N by omega); omega, ?_⟩
  have h3 : A * (A ^ (phiP l - 1) % N) % N = 1 % N := by
    rw [Nat.mul_mod_mod, ← Nat.pow_succ', show (phiP l - 1).succ = phiP l by omega, h1]
  exact_mod_cast h3

theorem gcd_of_inv {a m i : Int} (ha : 0 ≤ a) (ham : a < m) (hi0 : 0 ≤ i) (hi : a * i % m = 1 % m) : Nat.gcd a.toNat m.toNat = 1 := by
  obtain ⟨A, rfl⟩ := Int.eq_ofNat_of_zero_le ha
  obtain ⟨N, rfl⟩ := Int.eq_ofNat_of_zero_le (show 0 ≤ m by omega)
  obtain ⟨I, rfl⟩ := Int.eq_ofNat_of_zero_le hi0
  simp only [Int.toNat_natCast]
  have h : A * I % N = 1 % N := by exact_mod_cast hi
  have h1 : Nat.gcd A N ∣ A * I % N := (Nat.dvd_mod_iff (Nat.gcd_dvd_right A N)).2 (Nat.dvd_trans (Nat.gcd_dvd_left A N) (Nat.dvd_mul_right _ _))
  rw [h] at h1
  exact Nat.dvd_one.1 ((Nat.dvd_mod_iff (Nat.gcd_dvd_right A N)).1 h1)

end Go.Proofs.YtbehihanhfmmhaaGreat.M

namespace Go.Proofs.YtbehihanhfmmhaaGreat
open Go.RowKit

theorem ret_2ib {a b : Int} {c : Bool} (h : a = b) : Ending.returned (.tuple #[.int .i64 a, .bool c]) = .returned (.tuple #[.int .i64 b, .bool c]) := by rw [h]

set_option maxHeartbeats 400000 in
theorem invert_any (a m i : Int) (w : World) (ha : 0 ≤ a) (ham : a < m) (hm : m ≤ 2147483647) (hi0 : 0 ≤ i) (him : i < m) (hi : Hid (a * i % m = 1 % m)) :
    Calls Tryz.prog 77 #[.int .i64 a, .int .i64 m] w fun e w' => e = .returned (.int .i64 i) ∧ w = w' := by
  have hst := Lib.hid (M.Eu.start ha ham (M.gcd_of_inv ha ham hi0 hi.out))
  go_enter Tryz.func77, Tryz.ntmps77
  go_wp2
  go_loop [5, 6, 7, 8] (fun r s x y => ∃ R S X Y : Int, r = .int .i64 R ∧ s = .int .i64 S ∧ x = .int .i64 X ∧ y = .int .i64 Y ∧ Hid (M.Eu a m R S X Y)) (fun _ s _ _ => (intOf s).toNat)
  case atStart => exact ⟨m, a, 0, 1, rfl, rfl, rfl, rfl, hst.out⟩
  case round =>
    obtain ⟨R, S, X, Y, rfl, rfl, rfl, rfl, HE⟩ := hrel
    have hr0 := HE.out.r0
    have hs0 := HE.out.s0
    have hsr := HE.out.sr
    have hrm := HE.out.rm
    by_cases h0 : 0 < S
    · obtain ⟨q0, q1, q2, q3, q4, q5, q6, q7, hE⟩ := HE.out.step h0
      have hne : ((S : Int) == 0) = false := by simp; omega
      have hne2 : ((S : Int) != 0) = true := by simp; omega
      have HS := Lib.hid hE
      clear hE
      go_wp2
      go_round
      case rel => exact ⟨S, R - R / S * S, Y, X - R / S * Y, rfl, rfl, rfl, rfl, HS.out⟩
      case measure => simp [intOf]; have := HS.out.sr; omega
    · obtain rfl : S = 0 := by omega
      obtain ⟨f1, f2, f3, f4⟩ := HE.out.finish hi0 him hi.out
      have HF := Lib.hid (And.intro f1 f2)
      clear f1 f2
      by_cases hx : X < 0
      · go_wp2
        go_ret
        exact ⟨ret_i (HF.out.1 hx), rfl⟩
      · go_wp2
        go_ret
        exact ⟨ret_i (HF.out.2 (by omega)), rfl⟩

set_option maxHeartbeats 400000 in
theorem Inverse_yes (a m i : Int) (w : World) (ha : 0 ≤ a) (ham : a < m) (hm : m ≤ 2147483647) (hi0 : 0 ≤ i) (him : i < m) (hi : Hid (a * i % m = 1 % m)) :
    Calls Tryz.prog 56 #[.int .i64 a, .int .i64 m] w fun e w' => e = .returned (.tuple #[.int .i64 i, .bool true]) ∧ w = w' := by
  have hg := M.gcd_of_inv ha ham hi0 hi.out
  have hst := Lib.hid (M.Eu.start ha ham hg)
  have hg1 : (gcdI a m != 1) = false := by simp [gcdI, hg]
  clear hg
  go_enter Tryz.func56, Tryz.ntmps56
  go_wp2_with (go_at_call 72; refine (Gcd_any _ _ _ (by omega) (by omega) (by omega) (by omega)).mono ?_; rintro e w' ⟨rfl, rfl⟩)
  go_loop [6, 7, 8, 9] (fun r s x y => ∃ R S X Y : Int, r = .int .i64 R ∧ s = .int .i64 S ∧ x = .int .i64 X ∧ y = .int .i64 Y ∧ Hid (M.Eu a m R S X Y)) (fun _ s _ _ => (intOf s).toNat)
  case atStart => exact ⟨m, a, 0, 1, rfl, rfl, rfl, rfl, hst.out⟩
  case round =>
    obtain ⟨R, S, X, Y, rfl, rfl, rfl, rfl, HE⟩ := hrel
    have hr0 := HE.out.r0
    have hs0 := HE.out.s0
    have hsr := HE.out.sr
    have hrm := HE.out.rm
    by_cases h0 : 0 < S
    · obtain ⟨q0, q1, q2, q3, q4, q5, q6, q7, hE⟩ := HE.out.step h0
      have HS := Lib.hid hE
      clear hE
      go_wp2
      go_round
      case rel => exact ⟨S, R - R / S * S, Y, X - R / S * Y, rfl, rfl, rfl, rfl, HS.out⟩
      case measure => simp [intOf]; have := HS.out.sr; omega
    · obtain rfl : S = 0 := by omega
      obtain ⟨f1, f2, f3, f4⟩ := HE.out.finish hi0 him hi.out
      have HF := Lib.hid (And.intro f1 f2)
      clear f1 f2
      by_cases hx : X < 0
      · have ht : X.tmod m = X := by
          obtain ⟨z, rfl⟩ : ∃ z, X = -z := ⟨-X, by omega⟩
          rw [Int.neg_tmod, Int.tmod_eq_of_lt (by omega) (by omega)]
        go_wp2
        go_ret2
        have hfin : X % m = i := by rw [← Int.add_emod_right, Int.emod_eq_of_lt (by omega) (by omega)]; exact HF.out.1 hx
        exact ⟨ret_2ib hfin, rfl⟩
      · have ht : X.tmod m = X := Int.tmod_eq_of_lt (by omega) (by omega)
        have ht2 : X % m = X := Int.emod_eq_of_lt (by omega) (by omega)
        go_wp2
        go_ret2
        exact ⟨ret_2ib (HF.out.2 (by omega)), rfl⟩

set_option maxHeartbeats 400000 in
theorem Inverse_no (a m : Int) (w : World) (ha : 0 ≤ a) (ham : a < m) (hm : m ≤ 2147483647) (hg1 : (gcdI a m != 1) = true) :
    Calls Tryz.prog 56 #[.int .i64 a, .int .i64 m] w fun e w' => e = .returned (.tuple #[.int .i64 0, .bool false]) ∧ w = w' := by
  go_enter Tryz.func56, Tryz.ntmps56
  go_wp2_with (go_at_call 72; refine (Gcd_any _ _ _ (by omega) (by omega) (by omega) (by omega)).mono ?_; rintro e w' ⟨rfl, rfl⟩)
  go_ret2
  exact ⟨rfl, rfl⟩

end Go.Proofs.YtbehihanhfmmhaaGreat

namespace Go.Proofs.YtbehihanhfmmhaaGreat
open Go.RowKit

/-- The least divisor from 2 on. -/
def Least (n d : Int) : Prop := 2 ≤ d ∧ d ∣ n ∧ ∀ k : Int, 2 ≤ k → k ∣ n → d ≤ k

theorem Least.le {n d : Int} (h : Least n d) (hn : 1 ≤ n) : d ≤ n := Int.le_of_dvd (by omega) h.2.1

theorem sq_bd (k : Int) (h0 : 0 ≤ k) (h : k ≤ 46341) : 0 ≤ k * k ∧ k * k ≤ 2147488281 := by
  have h1 : k * k ≤ 46341 * 46341 := Int.mul_le_mul h h h0 (by omega)
  exact ⟨Int.mul_nonneg h0 h0, by omega⟩

theorem sq_small (k n : Int) (h0 : 0 ≤ k) (hn : n ≤ 2147483647) (h : k * k ≤ n) : k ≤ 46340 := by
  refine Classical.byContradiction fun hc => ?_
  have h1 : 46341 * 46341 ≤ k * k := Int.mul_le_mul (by omega) (by omega) (by omega) h0
  omega

theorem Least.of_sq {n d k : Int} (h : Least n d) (hn : 1 ≤ n) (hk : k ≤ d) (hk0 : 2 ≤ k) (hs : n < k * k) : d = n := by
  obtain ⟨c, hc⟩ := h.2.1
  have h2 := h.1
  have hc1 : 1 ≤ c := by
    refine Classical.byContradiction fun h0 => ?_
    have : d * c ≤ d * 0 := Int.mul_le_mul_of_nonneg_left (by omega) (by omega)
    omega
  by_cases h1 : c = 1
  · subst h1; omega
  · exfalso
    have h3 := h.2.2 c (by omega) ⟨d, by rw [hc, Int.mul_comm]⟩
    have h4 : k * k ≤ d * c := Int.mul_le_mul hk (by omega) (by omega) (by omega)
    omega

set_option maxHeartbeats 400000 in
theorem Divisor_any (n d : Int) (w : World) (hn : 2 ≤ n) (hn2 : n ≤ 2147483647) (hd : Hid (Least n d)) :
    Calls Tryz.prog 47 #[.int .i64 n] w fun e w' => e = .returned (.int .i64 d) ∧ w = w' := by
  have hd2 := hd.out.1
  have hdn := hd.out.le (by omega)
  go_enter Tryz.func47, Tryz.ntmps47
  go_wp2
  go_loop [3] (fun x => ∃ K : Int, x = .int .i64 K ∧ 2 ≤ K ∧ K ≤ d ∧ K ≤ 46341) (fun x => (46342 - intOf x).toNat)
  case atStart => exact ⟨2, rfl, by omega, by omega, by omega⟩
  case round =>
    obtain ⟨K, rfl, hK, hKd, hK2⟩ := hrel
    have hsq := sq_bd K (by omega) hK2
    by_cases hs : K * K ≤ n
    · have hsm := sq_small K n (by omega) hn2 hs
      by_cases hdv : n % K = 0
      · have he : d = K := by
          have := hd.out.2.2 K hK (Int.dvd_of_emod_eq_zero hdv)
          omega
        have HE := Lib.hid he
        have ht : ((n % K : Int) == 0) = true := by simpa using hdv
        clear he hdv
        go_wp2
        go_ret
        exact ⟨ret_i HE.out.symm, rfl⟩
      · have hlt : K + 1 ≤ d := by
          have : d ≠ K := fun e => hdv (Int.emod_eq_zero_of_dvd (e ▸ hd.out.2.1))
          omega
        have ht : ((n % K : Int) == 0) = false := by simpa using hdv
        clear hdv
        go_wp2
        go_round
        case rel => exact ⟨K + 1, rfl, by omega, by omega, by omega⟩
        case measure => simp [intOf]; omega
    · have he := Lib.hid (hd.out.of_sq (by omega) hKd hK (by omega))
      go_wp2
      go_ret
      exact ⟨ret_i he.out.symm, rfl⟩

def PrI (n : Int) : Prop := 2 ≤ n ∧ n ≤ 2147483647 ∧ M.Pr n.toNat

theorem exists_Least (n : Int) (hn : 2 ≤ n) : ∃ d, Least n d ∧ (d = n ↔ M.Pr n.toNat) := by
  obtain ⟨N, rfl⟩ := Int.eq_ofNat_of_zero_le (show 0 ≤ n by omega)
  obtain ⟨d, h1, h2, h3⟩ := M.exists_least N (by omega)
  refine ⟨d, ⟨by omega, by exact_mod_cast h2, fun k hk hkn => ?_⟩, ?_⟩
  · obtain ⟨K, rfl⟩ := Int.eq_ofNat_of_zero_le (show 0 ≤ k by omega)
    have := h3 K (by omega) (by exact_mod_cast hkn)
    omega
  · rw [Int.toNat_natCast]
    have hp := M.least_prime h1 h2 h3
    constructor
    · intro e
      have : d = N := by omega
      exact this ▸ hp
    · intro h
      rcases h.2 d h2 with e | e
      · omega
      · omega

theorem Prime_yes (n : Int) (w : World) (h : Hid (PrI n)) : Calls Tryz.prog 18 #[.int .i64 n] w fun e w' => e = .returned (.bool true) ∧ w = w' := by
  obtain ⟨h2, hm, hp⟩ := h.out
  obtain ⟨d, hd, hiff⟩ := exists_Least n h2
  obtain rfl := hiff.2 hp
  have HD := Lib.hid hd
  clear hd hiff hp h
  go_enter Tryz.func18, Tryz.ntmps18
  go_wp2_with (first
    | (go_at_call 46; refine (Number_yes _ _ (by omega) (by omega)).mono ?_; rintro e w' ⟨rfl, rfl⟩)
    | (go_at_call 47; refine (Divisor_any _ _ _ (by omega) (by omega) HD).mono ?_; rintro e w' ⟨rfl, rfl⟩))
  go_ret
  exact ⟨ret_b (by simp), rfl⟩

theorem Prime_no (n : Int) (w : World) (h : Hid (¬ PrI n)) : Calls Tryz.prog 18 #[.int .i64 n] w fun e w' => e = .returned (.bool false) ∧ w = w' := by
  by_cases hr : n < 1 ∨ 2147483647 < n
  · go_enter Tryz.func18, Tryz.ntmps18
    go_wp2_with (go_at_call 46; refine (Number_no _ _ hr).mono ?_; rintro e w' ⟨rfl, rfl⟩)
    go_ret
    exact ⟨rfl, rfl⟩
  · have h1 : 1 ≤ n := by omega
    have hm : n ≤ 2147483647 := by omega
    clear hr
    by_cases h2 : 1 < n
    · obtain ⟨d, hd, hiff⟩ := exists_Least n (by omega)
      have hne : ((d : Int) == n) = false := by
        rw [beq_eq_false_iff_ne]
        intro e
        exact h.out ⟨by omega, hm, hiff.1 e⟩
      have HD := Lib.hid hd
      clear hd hiff
      go_enter Tryz.func18, Tryz.ntmps18
      go_wp2_with (first
        | (go_at_call 46; refine (Number_yes _ _ (by omega) (by omega)).mono ?_; rintro e w' ⟨rfl, rfl⟩)
        | (go_at_call 47; refine (Divisor_any _ _ _ (by omega) (by omega) HD).mono ?_; rintro e w' ⟨rfl, rfl⟩))
      go_ret
      exact ⟨rfl, rfl⟩
    · go_enter Tryz.func18, Tryz.ntmps18
      go_wp2_with (go_at_call 46; refine (Number_yes _ _ (by omega) (by omega)).mono ?_; rintro e w' ⟨rfl, rfl⟩)
      go_ret
      exact ⟨rfl, rfl⟩

end Go.Proofs.YtbehihanhfmmhaaGreat

namespace Go.Proofs.YtbehihanhfmmhaaGreat.M

theorem FacFrom.two_pow {lo : Nat} {l : List (Nat × Nat)} (h : FacFrom lo l) : 2 ^ l.length ≤ prodP l := by
  induction l generalizing lo with
  | nil => simp [prodP]
  | cons x l ih =>
    have h2 := h.2.1.1
    have h3 : x.1 ^ 1 ≤ x.1 ^ x.2 := Nat.pow_le_pow_right (by omega) h.2.2.1
    rw [Nat.pow_one] at h3
    have h4 := Nat.mul_le_mul (show 2 ≤ x.1 ^ x.2 by omega) (ih h.2.2.2)
    rw [List.length_cons, Nat.pow_succ, Nat.mul_comm]
    exact h4

theorem lt_of_two_pow {e n : Nat} (h : 2 ^ e ≤ n) (hn : n ≤ 2147483647) : e ≤ 30 := by
  refine Classical.byContradiction fun hc => ?_
  have : 2 ^ 31 ≤ 2 ^ e := Nat.pow_le_pow_right (by omega) (by omega)
  omega

theorem FacFrom.length_le {lo : Nat} {l : List (Nat × Nat)} (h : FacFrom lo l) (hn : prodP l ≤ 2147483647) : l.length ≤ 30 := lt_of_two_pow h.two_pow hn

theorem FacFrom.prod_drop_le {lo : Nat} {l : List (Nat × Nat)} (h : FacFrom lo l) (k : Nat) : prodP (l.drop k) ≤ prodP l := by
  have h1 : prodP l = prodP (l.take k) * prodP (l.drop k) := by rw [← prodP_append, List.take_append_drop]
  have h2 : 1 ≤ prodP (l.take k) := by
    apply Nat.pos_of_ne_zero
    intro e
    rw [e] at h1
    have := h.pos
    omega
  rw [h1]
  exact Nat.le_mul_of_pos_left _ h2

/-- What 'take' does: what is known of the exponent, of the rest, of the list behind it. -/
structure Taken (L : List (Nat × Nat)) (k d k' e r : Nat) : Prop where
  le : k' ≤ L.length
  val : prodP (L.drop k) = d ^ e * r ∧ ¬ d ∣ r ∧ 1 ≤ r
  list : (L.take k ++ if e = 0 then [] else [(d, e)]) = L.take k'
  rest : r = prodP (L.drop k')
  fac : FacFrom d (L.drop k')

theorem take_step {L : List (Nat × Nat)} {k d : Nat} (hd : 2 ≤ d) (hk : k ≤ L.length) (h : FacFrom (d - 1) (L.drop k)) : ∃ k' e r, Taken L k d k' e r := by
  by_cases hn : FacFrom d (L.drop k)
  · refine ⟨k, 0, prodP (L.drop k), hk, ⟨by simp, fun hdv => ?_, hn.pos⟩, by simp, rfl, hn⟩
    have := hn.lt_div hd hdv
    omega
  · match hL : L.drop k, h, hn with
    | [], _, hn => exact absurd trivial hn
    | x :: t, h, hn =>
      have hx : x.1 = d := by
        refine Classical.byContradiction fun hc => hn ⟨?_, h.2⟩
        have := h.1
        omega
      have hkl : k < L.length := by
        refine Classical.byContradiction fun hc => ?_
        rw [List.drop_eq_nil_of_le (by omega)] at hL
        cases hL
      have hdk : L.drop (k + 1) = t := by
        rw [← List.drop_drop, hL]; rfl
      have hxk : L[k]? = some x := by
        have h5 : (L.drop k)[0]? = some x := by rw [hL]; rfl
        rw [List.getElem?_drop] at h5
        simpa using h5
      have h3 := h.2.2.1
      subst hx
      refine ⟨k + 1, x.2, prodP t, by omega, ⟨by rw [hL]; rfl, h.2.2.2.not_dvd h.2.1, h.2.2.2.pos⟩, ?_, by rw [hdk], by rw [hdk]; exact h.2.2.2⟩
      rw [if_neg (by omega), List.take_add_one, hxk]
      rfl

theorem FacFrom.next_odd {d : Nat} {l : List (Nat × Nat)} (h : FacFrom d l) (hd : d % 2 = 1) (h3 : 3 ≤ d) : FacFrom (d + 1) l := by
  match l, h with
  | [], _ => trivial
  | x :: l, h =>
    refine ⟨?_, h.2⟩
    have h1 := h.1
    have : x.1 ≠ d + 1 := by
      intro e
      rcases h.2.1.2 2 (Nat.dvd_of_mod_eq_zero (by omega)) with h4 | h4 <;> omega
    omega

/-- Nothing is left, or one prime. -/
theorem FacFrom.last {d : Nat} {l : List (Nat × Nat)} (h : FacFrom (d - 1) l) (hd : 2 ≤ d) (hs : prodP l < d * d) : (l = [] ∧ prodP l = 1) ∨ (l = [(prodP l, 1)] ∧ 2 ≤ prodP l ∧ Pr (prodP l)) := by
  match l, h with
  | [], _ => exact .inl ⟨rfl, rfl⟩
  | x :: l, h =>
    right
    have h1 := h.1
    have h2 := h.2.2.1
    have hpos := h.2.2.2.pos
    have hx2 : x.2 = 1 := by
      refine Classical.byContradiction fun hc => ?_
      have h3 : x.1 ^ 2 ≤ x.1 ^ x.2 := Nat.pow_le_pow_right (by omega) (by omega)
      have h4 : d * d ≤ x.1 ^ 2 := by rw [Nat.pow_two]; exact Nat.mul_le_mul (by omega) (by omega)
      have h5 : x.1 ^ x.2 * 1 ≤ x.1 ^ x.2 * prodP l := Nat.mul_le_mul_left _ hpos
      have h6 : prodP (x :: l) = x.1 ^ x.2 * prodP l := rfl
      omega
    have hl : l = [] := by
      match l, h.2.2.2 with
      | [], _ => rfl
      | y :: l, h' =>
        exfalso
        have h3 := h'.1
        have h4 := h'.2.2.1
        have h5 := h'.2.2.2.pos
        have h6 : y.1 ^ 1 ≤ y.1 ^ y.2 := Nat.pow_le_pow_right (by omega) h4
        rw [Nat.pow_one] at h6
        have h7 : y.1 ^ y.2 * 1 ≤ y.1 ^ y.2 * prodP l := Nat.mul_le_mul_left _ h5
        have h8 : prodP (x :: y :: l) = x.1 ^ x.2 * (y.1 ^ y.2 * prodP l) := rfl
        rw [hx2, Nat.pow_one] at h8
        have h9 : d * d ≤ x.1 * (y.1 ^ y.2 * prodP l) := Nat.mul_le_mul (by omega) (by omega)
        omega
    subst hl
    have he : prodP [x] = x.1 := by simp [prodP, hx2]
    rw [he]
    refine ⟨?_, h.2.1.1, h.2.1⟩
    rw [show x = (x.1, 1) from Prod.ext rfl hx2]

end Go.Proofs.YtbehihanhfmmhaaGreat.M
