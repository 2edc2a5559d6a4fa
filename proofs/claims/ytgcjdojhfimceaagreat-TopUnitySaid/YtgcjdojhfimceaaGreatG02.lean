/- Texts of the proof, laid together. -/
import Derived.Test.YtgcjdojhfimceaaGreatRows
import Derived.Test.YtgcjdojhfimceaaGreatG01
import Derived.WalkKit
import Derived.WalkSpells
import Derived.WalkLawsBesides
import Derived.Lib.Hide
namespace Go.Proofs.YtgcjdojhfimceaaGreat
open Go.RowKit

theorem ret_i {a b : Int} (h : a = b) : Ending.returned (.int .i64 a) = .returned (.int .i64 b) := by rw [h]

set_option maxHeartbeats 400000 in
theorem raise_any (a e m : Int) (w : World) (ha : 0 ≤ a) (ham : a < m) (he : 0 ≤ e) (he2 : e ≤ 9223372036854775807) (hm : m ≤ 2147483647) :
    Calls Tryz.prog 39 #[.int .i64 a, .int .i64 e, .int .i64 m] w fun x w' => x = .returned (.int .i64 (M.pw a e m)) ∧ w = w' := by
  have h1m : 0 ≤ 1 % m ∧ 1 % m < m := ⟨Int.emod_nonneg _ (by omega), Int.emod_lt_of_pos _ (by omega)⟩
  have hkeep := Lib.hid (M.keep_start a e m (by omega))
  go_enter Tryz.func39, Tryz.ntmps39
  go_wp2
  go_loop [1, 7, 8] (fun x r s => ∃ E R S : Int, x = .int .i64 E ∧ r = .int .i64 R ∧ s = .int .i64 S ∧ 0 ≤ E ∧ E ≤ 9223372036854775807 ∧ 0 ≤ R ∧ R < m ∧ 0 ≤ S ∧ S < m ∧ Hid (((M.keep R S E m : Nat) : Int) = M.pw a e m)) (fun x _ _ => (intOf x).toNat)
  case atStart => exact ⟨e, 1 % m, a, rfl, rfl, rfl, he, he2, h1m.1, h1m.2, ha, ham, hkeep.out⟩
  case round =>
    obtain ⟨E, R, S, rfl, rfl, rfl, hE0, hE1, hR0, hR1, hS0, hS1, HK⟩ := hrel
    have b1 := M.mul_bd R S m hR0 hR1 hS0 hS1 hm
    have b2 := M.mul_bd S S m hS0 hS1 hS0 hS1 hm
    have b3 := M.mulmod_bd R S m (by omega)
    have b4 := M.mulmod_bd S S m (by omega)
    by_cases hp : 0 < E
    · by_cases ho : E % 2 = 1
      · have hk := Lib.hid (M.keep_odd R S E m hR0 hS0 hp (by omega) ho)
        have ho' : ((E % 2 : Int) == 1) = true := by simpa using ho
        clear ho
        go_wp2
        go_round
        case rel => exact ⟨E / 2, R * S % m, S * S % m, rfl, rfl, rfl, by omega, by omega, b3.1, b3.2, b4.1, b4.2, hk.out ▸ HK.out⟩
        case measure => simp [intOf]; omega
      · have hk := Lib.hid (M.keep_even R S E m hS0 hp (by omega) ho)
        have ho' : ((E % 2 : Int) == 1) = false := by simpa using ho
        clear ho
        go_wp2
        go_round
        case rel => exact ⟨E / 2, R, S * S % m, rfl, rfl, rfl, by omega, by omega, hR0, hR1, b4.1, b4.2, hk.out ▸ HK.out⟩
        case measure => simp [intOf]; omega
    · obtain rfl : E = 0 := by omega
      go_wp2
      go_ret
      exact ⟨ret_i (by rw [← HK.out]; exact (M.keep_end R S m hR0 hR1).symm), rfl⟩

end Go.Proofs.YtgcjdojhfimceaaGreat
