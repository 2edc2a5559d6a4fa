/- The walks over the inverses. -/
import Derived.Test.YtjlcbejgmjiffaaWalkInt
import Derived.Test.YtjlcbejgmjiffaaInv
namespace Go.Proofs.Ytjlcbejgmjiffaa
open Go.RowKit

theorem ret_2ib {a b : Int} {c : Bool} (h : a = b) : Ending.returned (.tuple #[.int .i64 a, .bool c]) = .returned (.tuple #[.int .i64 b, .bool c]) := by rw [h]

set_option maxHeartbeats 400000 in
theorem invert_any (a m i : Int) (w : World) (ha : 0 ≤ a) (ham : a < m) (hm : m ≤ 2147483647) (hi0 : 0 ≤ i) (him : i < m) (hi : Hid (a * i % m = 1 % m)) :
    Calls Try.prog 48 #[.int .i64 a, .int .i64 m] w fun e w' => e = .returned (.int .i64 i) ∧ w = w' := by
  have hst := Lib.hid (M.Eu.start ha ham (M.gcd_of_inv ha ham hi0 hi.out))
  go_enter Try.func48, Try.ntmps48
  go_wp2
  go_loop [5, 6, 7, 8] (fun r s x y => ∃ R S X Y : Int, r = .int .i64 R ∧ s = .int .i64 S ∧ x = .int .i64 X ∧ y = .int .i64 Y ∧ Hid (M.Eu a m R S X Y)) (fun _ s _ _ => (intOf s).toNat)
  case atStart => exact ⟨m, a, 0, 1, rfl, rfl, rfl, rfl, hst.out⟩
  case round =>
    obtain ⟨R, S, X, Y, rfl, rfl, rfl, rfl, HE⟩ := hrel
    have hr0 := HE.out.r0
    have hs0 := HE.out.s0
    have hsr := HE.out.sr
    have hrm := HE.out.rm
    by_cases h0 : 0 < S
    · obtain ⟨q0, q1, q2, q3, q4, q5, q6, q7, hE⟩ := HE.out.step h0
      have hne : ((S : Int) == 0) = false := by simp; omega
      have hne2 : ((S : Int) != 0) = true := by simp; omega
      have HS := Lib.hid hE
      clear hE
      go_wp2
      go_round
      case rel => exact ⟨S, R - R / S * S, Y, X - R / S * Y, rfl, rfl, rfl, rfl, HS.out⟩
      case measure => simp [intOf]; have := HS.out.sr; omega
    · obtain rfl : S = 0 := by omega
      obtain ⟨f1, f2, f3, f4⟩ := HE.out.finish hi0 him hi.out
      have HF := Lib.hid (And.intro f1 f2)
      clear f1 f2
      by_cases hx : X < 0
      · go_wp2
        go_ret
        exact ⟨ret_i (HF.out.1 hx), rfl⟩
      · go_wp2
        go_ret
        exact ⟨ret_i (HF.out.2 (by omega)), rfl⟩

set_option maxHeartbeats 400000 in
theorem Inverse_yes (a m i : Int) (w : World) (ha : 0 ≤ a) (ham : a < m) (hm : m ≤ 2147483647) (hi0 : 0 ≤ i) (him : i < m) (hi : Hid (a * i % m = 1 % m)) :
    Calls Try.prog 29 #[.int .i64 a, .int .i64 m] w fun e w' => e = .returned (.tuple #[.int .i64 i, .bool true]) ∧ w = w' := by
  have hg := M.gcd_of_inv ha ham hi0 hi.out
  have hst := Lib.hid (M.Eu.start ha ham hg)
  have hg1 : (gcdI a m != 1) = false := by simp [gcdI, hg]
  clear hg
  go_enter Try.func29, Try.ntmps29
  go_wp2_with (go_at_call 50; refine (Gcd_any _ _ _ (by omega) (by omega) (by omega) (by omega)).mono ?_; rintro e w' ⟨rfl, rfl⟩)
  go_loop [6, 7, 8, 9] (fun r s x y => ∃ R S X Y : Int, r = .int .i64 R ∧ s = .int .i64 S ∧ x = .int .i64 X ∧ y = .int .i64 Y ∧ Hid (M.Eu a m R S X Y)) (fun _ s _ _ => (intOf s).toNat)
  case atStart => exact ⟨m, a, 0, 1, rfl, rfl, rfl, rfl, hst.out⟩
  case round =>
    obtain ⟨R, S, X, Y, rfl, rfl, rfl, rfl, HE⟩ := hrel
    have hr0 := HE.out.r0
    have hs0 := HE.out.s0
    have hsr := HE.out.sr
    have hrm := HE.out.rm
    by_cases h0 : 0 < S
    · obtain ⟨q0, q1, q2, q3, q4, q5, q6, q7, hE⟩ := HE.out.step h0
      have HS := Lib.hid hE
      clear hE
      go_wp2
      go_round
      case rel => exact ⟨S, R - R / S * S, Y, X - R / S * Y, rfl, rfl, rfl, rfl, HS.out⟩
      case measure => simp [intOf]; have := HS.out.sr; omega
    · obtain rfl : S = 0 := by omega
      obtain ⟨f1, f2, f3, f4⟩ := HE.out.finish hi0 him hi.out
      have HF := Lib.hid (And.intro f1 f2)
      clear f1 f2
      by_cases hx : X < 0
      · have ht : X.tmod m = X := by
          obtain ⟨z, rfl⟩ : ∃ z, X = -z := ⟨-X, by omega⟩
          rw [Int.neg_tmod, Int.tmod_eq_of_lt (by omega) (by omega)]
        go_wp2
        go_ret2
        have hfin : X % m = i := by rw [← Int.add_emod_right, Int.emod_eq_of_lt (by omega) (by omega)]; exact HF.out.1 hx
        exact ⟨ret_2ib hfin, rfl⟩
      · have ht : X.tmod m = X := Int.tmod_eq_of_lt (by omega) (by omega)
        have ht2 : X % m = X := Int.emod_eq_of_lt (by omega) (by omega)
        go_wp2
        go_ret2
        exact ⟨ret_2ib (HF.out.2 (by omega)), rfl⟩

set_option maxHeartbeats 400000 in
theorem Inverse_no (a m : Int) (w : World) (ha : 0 ≤ a) (ham : a < m) (hm : m ≤ 2147483647) (hg1 : (gcdI a m != 1) = true) :
    Calls Try.prog 29 #[.int .i64 a, .int .i64 m] w fun e w' => e = .returned (.tuple #[.int .i64 0, .bool false]) ∧ w = w' := by
  go_enter Try.func29, Try.ntmps29
  go_wp2_with (go_at_call 50; refine (Gcd_any _ _ _ (by omega) (by omega) (by omega) (by omega)).mono ?_; rintro e w' ⟨rfl, rfl⟩)
  go_ret2
  exact ⟨rfl, rfl⟩

end Go.Proofs.Ytjlcbejgmjiffaa
