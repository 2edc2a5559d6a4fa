/- The walks over the inverses. -/
import Derived.Test.YtldfbadcigdbkaaWalkInt
import Derived.Test.YtldfbadcigdbkaaInv
namespace Go.Proofs.Ytldfbadcigdbkaa
open Go.RowKit

theorem ret_2ib {a b : Int} {c : Bool} (h : a = b) : Ending.returned (.tuple #[.int .i64 a, .bool c]) = .returned (.tuple #[.int .i64 b, .bool c]) := by rw [h]

set_option maxHeartbeats 400000 in
theorem invert_any (a m i : Int) (w : World) (ha : 0 ≤ a) (ham : a < m) (hm : m ≤ 2147483647) (hi0 : 0 ≤ i) (him : i < m) (hi : Hid (a * i % m = 1 % m)) :
    Calls Try.prog 45 #[.int .i64 a, .int .i64 m] w fun e w' => e = .returned (.int .i64 i) ∧ w = w' := by
  have hst := Lib.hid (M.Eu.start ha ham (M.gcd_of_inv ha ham hi0 hi.out))
  go_enter Try.func45, Try.ntmps45
  go_wp2
  go_loop [5, 6, 7, 8] (fun r s x y => ∃ R S X Y : Int, r = .int .i64 R ∧ s = .int .i64 S ∧ x = .int .i64 X ∧ y = .int .i64 Y ∧ Hid (M.Eu a m R S X Y)) (fun _ s _ _ => (intOf s).toNat)
  case atStart => exact ⟨m, a, 0, 1, rfl, rfl, rfl, rfl, hst.out⟩
  case round =>
    obtain ⟨R, S, X, Y, rfl, rfl, rfl, rfl, HE⟩ := hrel
    have hr0 := HE.out.r0
    have hs0 := HE.out.s0
    have hsr := HE.out.sr
    have hrm := HE.out.rm
    by_cases h0 : 0 < S
    · obtain ⟨q0, q1, q2, q3, q4, q5, q6, q7, hE⟩ := HE.out.step h0
      have hne : ((S : Int) == 0) = false := by simp; omega
      have hne2 : ((S : Int) != 0) = true := by simp; omega
      have HS := Lib.hid hE
      clear hE
      go_wp2
      go_round
      case rel => exact ⟨S, R - R / S * S, Y, X - R / S * Y, rfl, rfl, rfl, rfl, HS.out⟩
      case measure => simp [intOf]; have := HS.out.sr; omega
    · obtain rfl : S = 0 := by omega
      obtain ⟨f1, f2, f3, f4⟩ := HE.out.finish hi0 him hi.out
      have HF := Lib.hid (And.intro f1 f2)
      clear f1 f2
      by_cases hx : X < 0
      · go_wp2
        go_ret
        exact ⟨ret_i (HF.out.1 hx), rfl⟩
      · go_wp2
        go_ret
        exact ⟨ret_i (HF.out.2 (by omega)), rfl⟩

end Go.Proofs.Ytldfbadcigdbkaa