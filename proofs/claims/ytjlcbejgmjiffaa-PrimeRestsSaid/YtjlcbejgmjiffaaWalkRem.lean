/- The walks over prime.Power, Inverse, Order; generates, leastGenerator, Generator. -/
import Derived.Test.YtjlcbejgmjiffaaWalkIsOrd
namespace Go.Proofs.Ytjlcbejgmjiffaa
open Go.RowKit

def IsRest (a m : Int) : Prop := 0 ≤ a ∧ a < m ∧ m ≤ 2147483647

set_option maxHeartbeats 400000 in
theorem Pow_ok (a e m : Int) (w : World) (ha : 0 ≤ a) (ham : a < m) (hm : m ≤ 2147483647) (he : 0 ≤ e) (he2 : e ≤ 9223372036854775807) :
    Calls Try.prog 25 #[.int .i64 a, .int .i64 e, .int .i64 m] w fun x w' => x = .returned (.tuple #[.int .i64 (M.pw a e m), .int .i64 0]) ∧ w = w' := by
  go_enter Try.func25, Try.ntmps25
  go_wp2_with (first
    | (go_at_call 45; refine (isRest_yes _ _ _ (by omega) (by omega) (by omega)).mono ?_; rintro e w' ⟨rfl, rfl⟩)
    | (go_at_call 46; refine (raise_any _ _ _ _ (by omega) (by omega) (by omega) (by omega) (by omega)).mono ?_; rintro e w' ⟨rfl, rfl⟩))
  go_ret2
  exact ⟨rfl, rfl⟩

set_option maxHeartbeats 400000 in
theorem Pow_neg (a e m : Int) (w : World) (ha : 0 ≤ a) (ham : a < m) (hm : m ≤ 2147483647) (he : e < 0) :
    Calls Try.prog 25 #[.int .i64 a, .int .i64 e, .int .i64 m] w fun x w' => x = .returned (.tuple #[.int .i64 0, .int .i64 2]) ∧ w = w' := by
  go_enter Try.func25, Try.ntmps25
  go_wp2_with (first
    | (go_at_call 45; refine (isRest_yes _ _ _ (by omega) (by omega) (by omega)).mono ?_; rintro e w' ⟨rfl, rfl⟩))
  go_ret2
  exact ⟨rfl, rfl⟩

set_option maxHeartbeats 400000 in
theorem Pow_arg (a e m : Int) (w : World) (h : Hid (¬ IsRest a m)) :
    Calls Try.prog 25 #[.int .i64 a, .int .i64 e, .int .i64 m] w fun x w' => x = .returned (.tuple #[.int .i64 0, .int .i64 2]) ∧ w = w' := by
  go_enter Try.func25, Try.ntmps25
  go_wp2_with (first
    | (go_at_call 45; refine (isRest_no _ _ _ h.out).mono ?_; rintro e w' ⟨rfl, rfl⟩))
  go_ret2
  exact ⟨rfl, rfl⟩

set_option maxHeartbeats 400000 in
theorem Inv_ok (a m i : Int) (w : World) (ha : 0 ≤ a) (ham : a < m) (hm : m ≤ 2147483647) (hi0 : 0 ≤ i) (him : i < m) (hi : Hid (a * i % m = 1 % m)) :
    Calls Try.prog 26 #[.int .i64 a, .int .i64 m] w fun x w' => x = .returned (.tuple #[.int .i64 i, .int .i64 0]) ∧ ∃ n, w' = w.drewN n := by
  have hg1 : (gcdI a m != 1) = false := by simp [gcdI, M.gcd_of_inv ha ham hi0 hi.out]
  go_enter Try.func26, Try.ntmps26
  go_wp2_with (first
    | (go_at_call 45; refine (isRest_yes _ _ _ (by omega) (by omega) (by omega)).mono ?_; rintro e w' ⟨rfl, rfl⟩)
    | (go_at_call 47; refine (gcd_any _ _ _ (by omega) (by omega) (by omega) (by omega)).mono ?_; rintro e w' ⟨rfl, n, rfl⟩)
    | (go_at_call 48; refine (invert_any _ _ i _ (by omega) (by omega) (by omega) hi0 him hi).mono ?_; rintro e w' ⟨rfl, rfl⟩))
  go_ret2
  exact ⟨rfl, _, rfl⟩

set_option maxHeartbeats 400000 in
theorem Inv_none (a m : Int) (w : World) (ha : 0 ≤ a) (ham : a < m) (hm : m ≤ 2147483647) (hg1 : (gcdI a m != 1) = true) :
    Calls Try.prog 26 #[.int .i64 a, .int .i64 m] w fun x w' => x = .returned (.tuple #[.int .i64 0, .int .i64 6]) ∧ ∃ n, w' = w.drewN n := by
  go_enter Try.func26, Try.ntmps26
  go_wp2_with (first
    | (go_at_call 45; refine (isRest_yes _ _ _ (by omega) (by omega) (by omega)).mono ?_; rintro e w' ⟨rfl, rfl⟩)
    | (go_at_call 47; refine (gcd_any _ _ _ (by omega) (by omega) (by omega) (by omega)).mono ?_; rintro e w' ⟨rfl, n, rfl⟩))
  go_ret2
  exact ⟨rfl, _, rfl⟩

set_option maxHeartbeats 400000 in
theorem Inv_arg (a m : Int) (w : World) (h : Hid (¬ IsRest a m)) :
    Calls Try.prog 26 #[.int .i64 a, .int .i64 m] w fun x w' => x = .returned (.tuple #[.int .i64 0, .int .i64 2]) ∧ w = w' := by
  go_enter Try.func26, Try.ntmps26
  go_wp2_with (first
    | (go_at_call 45; refine (isRest_no _ _ _ h.out).mono ?_; rintro e w' ⟨rfl, rfl⟩))
  go_ret2
  exact ⟨rfl, rfl⟩

set_option maxHeartbeats 400000 in
theorem Ord_ok (a m : Int) (o : Nat) (L L2 : List (Nat × Nat)) (w : World) (ha : 0 ≤ a) (ham : a < m) (hm : m ≤ 2147483647) (hL : Hid (M.IsFac m.toNat L)) (hL2 : Hid (M.IsFac (M.phiP L) L2)) (ho : Hid (M.IsOrd a.toNat o m.toNat)) :
    Calls Try.prog 27 #[.int .i64 a, .int .i64 m] w fun x w' => x = .returned (.tuple #[.int .i64 (o : Int), .int .i64 0]) ∧ Below w.heap.size w w' := by
  have hg1 : (gcdI a m != 1) = false := by
    have := M.coprime_of_pow ho.out.pos ho.out.one
    simp [gcdI]; exact_mod_cast this
  go_enter Try.func27, Try.ntmps27
  go_wp2_with (first
    | (go_at_call 45; refine (isRest_yes _ _ _ (by omega) (by omega) (by omega)).mono ?_; rintro e w' ⟨rfl, rfl⟩)
    | (go_at_call 47; refine (gcd_any _ _ _ (by omega) (by omega) (by omega) (by omega)).mono ?_; rintro e w' ⟨rfl, n, rfl⟩)
    | (go_at_call 49; refine (orderOf_any _ _ o L L2 _ (by omega) (by omega) (by omega) hL hL2 ho).mono ?_; rintro e w1 ⟨rfl, hB⟩; have HB := Lib.hid hB; clear hB))
  go_ret2
  exact ⟨rfl, (below_drewN (Below.refl w.heap.size w) _).trans HB.out⟩

set_option maxHeartbeats 400000 in
theorem Ord_none (a m : Int) (w : World) (ha : 0 ≤ a) (ham : a < m) (hm : m ≤ 2147483647) (hg1 : (gcdI a m != 1) = true) :
    Calls Try.prog 27 #[.int .i64 a, .int .i64 m] w fun x w' => x = .returned (.tuple #[.int .i64 0, .int .i64 6]) ∧ ∃ n, w' = w.drewN n := by
  go_enter Try.func27, Try.ntmps27
  go_wp2_with (first
    | (go_at_call 45; refine (isRest_yes _ _ _ (by omega) (by omega) (by omega)).mono ?_; rintro e w' ⟨rfl, rfl⟩)
    | (go_at_call 47; refine (gcd_any _ _ _ (by omega) (by omega) (by omega) (by omega)).mono ?_; rintro e w' ⟨rfl, n, rfl⟩))
  go_ret2
  exact ⟨rfl, _, rfl⟩

set_option maxHeartbeats 400000 in
theorem Ord_arg (a m : Int) (w : World) (h : Hid (¬ IsRest a m)) :
    Calls Try.prog 27 #[.int .i64 a, .int .i64 m] w fun x w' => x = .returned (.tuple #[.int .i64 0, .int .i64 2]) ∧ w = w' := by
  go_enter Try.func27, Try.ntmps27
  go_wp2_with (first
    | (go_at_call 45; refine (isRest_no _ _ _ h.out).mono ?_; rintro e w' ⟨rfl, rfl⟩))
  go_ret2
  exact ⟨rfl, rfl⟩

end Go.Proofs.Ytjlcbejgmjiffaa
