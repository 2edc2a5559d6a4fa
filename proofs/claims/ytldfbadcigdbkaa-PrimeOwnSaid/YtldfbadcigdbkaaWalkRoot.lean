/- The walks over isSquare, leastOther, squarings, rootOf, Root. -/
import Derived.Test.YtldfbadcigdbkaaWalkRem
import Derived.Test.YtldfbadcigdbkaaTon
namespace Go.Proofs.Ytldfbadcigdbkaa
open Go.RowKit

theorem isSquare_is (a p : Int) (t : Bool) (w : World) (ha : 0 ≤ a) (hap : a < p) (hp : p ≤ 2147483647) (ht : (M.pw a ((p - 1) / 2) p == 1) = t) :
    Calls Try.prog 38 #[.int .i64 a, .int .i64 p] w fun x w' => x = .returned (.bool t) ∧ w = w' := by
  have HT := Lib.hid ht
  clear ht
  go_enter Try.func38, Try.ntmps38
  go_wp2_with (go_at_call 41; refine (raise_any _ _ _ _ (by omega) (by omega) (by omega) (by omega) (by omega)).mono ?_; rintro e w' ⟨rfl, rfl⟩)
  go_ret
  exact ⟨ret_b HT.out, rfl⟩

set_option maxHeartbeats 400000 in
theorem leastOther_is (p : Int) (c : Nat) (w : World) (hp : 3 ≤ p) (hp2 : p ≤ 2147483647) (hc : 2 ≤ c) (hcp : c < p) (h : Hid (M.pw c ((p - 1) / 2) p ≠ 1 ∧ ∀ d : Int, 2 ≤ d → d < c → M.pw d ((p - 1) / 2) p = 1)) :
    Calls Try.prog 52 #[.int .i64 p] w fun x w' => x = .returned (.int .i64 c) ∧ w = w' := by
  go_enter Try.func52, Try.ntmps52
  go_wp2
  go_loop [3] (fun x => ∃ d : Int, x = .int .i64 d ∧ 2 ≤ d ∧ d ≤ c) (fun x => ((c : Int) - intOf x).toNat)
  case atStart => exact ⟨2, rfl, by omega, by omega⟩
  case round =>
    obtain ⟨d, rfl, hd2, hdc⟩ := hrel
    by_cases hlt : d < c
    · have ht : (M.pw d ((p - 1) / 2) p == 1) = true := by rw [beq_iff_eq]; exact h.out.2 d hd2 hlt
      have HT := Lib.hid ht
      clear ht
      go_wp2_with (go_at_call 38; refine (isSquare_is _ _ true _ (by omega) (by omega) (by omega) HT.out).mono ?_; rintro e w' ⟨rfl, rfl⟩)
      go_round
      case rel => exact ⟨d + 1, rfl, by omega, by omega⟩
      case measure => simp [intOf]; omega
    · obtain rfl : d = c := by omega
      have ht : (M.pw c ((p - 1) / 2) p == 1) = false := by rw [beq_eq_false_iff_ne]; exact h.out.1
      have HT := Lib.hid ht
      clear ht
      go_wp2_with (go_at_call 38; refine (isSquare_is _ _ false _ (by omega) (by omega) (by omega) HT.out).mono ?_; rintro e w' ⟨rfl, rfl⟩)
      go_ret
      exact ⟨rfl, rfl⟩

theorem mulmod_cast (x y p : Nat) : ((x : Int) * (y : Int)) % (p : Int) = ((x * y % p : Nat) : Int) := by simp

set_option maxHeartbeats 400000 in
theorem squarings_is (x p h : Nat) (w : World) (hp : 2 ≤ p) (hp2 : p ≤ 2147483647) (hx : x < p) (hh2 : h ≤ 64) (hh : Hid (M.IsSq x p h)) :
    Calls Try.prog 53 #[.int .i64 x, .int .i64 p] w fun r w' => r = .returned (.int .i64 h) ∧ w = w' := by
  go_enter Try.func53, Try.ntmps53
  go_wp2
  go_loop [0, 5] (fun v c => ∃ k y : Nat, c = .int .i64 k ∧ v = .int .i64 y ∧ k ≤ h ∧ y < p ∧ Hid (y = x ^ 2 ^ k % p)) (fun _ c => h - (intOf c).toNat)
  case atStart => exact ⟨0, x, rfl, rfl, by omega, hx, by show _ = _; rw [Nat.pow_zero, Nat.pow_one, Nat.mod_eq_of_lt hx]⟩
  case round =>
    obtain ⟨k, y, rfl, rfl, hk, hy, HY⟩ := hrel
    by_cases hlt : k < h
    · have hne : ((y : Int) != 1) = true := by
        have := hh.out.least k hlt
        rw [← HY.out] at this
        simp; omega
      have hne2 : ((y : Int) == 1) = false := by simpa using hne
      have hb := M.mul_bd y y p (by omega) (by omega) (by omega) (by omega) (by omega)
      have hlt3 := Nat.mod_lt (y * y) (show 0 < p by omega)
      have HM := Lib.hid (mulmod_cast y y p)
      go_wp2
      go_round
      case rel =>
        refine ⟨k + 1, y * y % p, by go_num, by rw [HM.out], by omega, hlt3, ?_⟩
        show _ = _
        rw [HY.out, ← Nat.mul_mod, ← Nat.pow_add, ← Nat.mul_two, ← Nat.pow_succ]
      case measure => simp [intOf]; omega
    · obtain rfl : k = h := by omega
      have h1 : y = 1 := by rw [HY.out]; exact hh.out.one
      have hne : ((y : Int) != 1) = false := by simp [h1]
      have hne2 : ((y : Int) == 1) = true := by simp [h1]
      clear h1
      go_wp2
      go_ret
      exact ⟨rfl, rfl⟩

theorem pw_nat (a e p : Nat) : M.pw (a : Int) (e : Int) (p : Int) = ((a ^ e % p : Nat) : Int) := by simp [M.pw]

theorem raise_is (a e m S : Nat) (w : World) (ham : a < m) (he2 : e ≤ 9223372036854775807) (hm : m ≤ 2147483647) (h : Hid (a ^ e % m = S)) :
    Calls Try.prog 41 #[.int .i64 a, .int .i64 e, .int .i64 m] w fun x w' => x = .returned (.int .i64 S) ∧ w = w' := by
  refine (raise_any a e m w (by omega) (by omega) (by omega) (by omega) (by omega)).mono fun x w' ⟨hx, hw⟩ => ⟨?_, hw⟩
  rw [hx, pw_nat, h.out]

def RootPost (a p : Int) (w : World) (e : Ending) (w' : World) : Prop := ∃ x : Int, e = .returned (.int .i64 x) ∧ 0 ≤ x ∧ x < p ∧ x * x % p = a ∧ w = w'

set_option maxRecDepth 100000 in
set_option maxHeartbeats 1000000 in
theorem rootOf_is (a p : Nat) (w : World) (hp : Hid (M.Pr p)) (h3 : 3 ≤ p) (hp2 : p ≤ 2147483647) (ha1 : 1 ≤ a) (hap : a < p) (ha : Hid (a ^ ((p - 1) / 2) % p = 1)) :
    Calls Try.prog 39 #[.int .i64 a, .int .i64 p] w (RootPost a p w) := by
  obtain ⟨tw, odd, ho, hodd, hodd1⟩ := M.strip 2 (p - 1) (by omega) (by omega)
  obtain ⟨c, hc2, hcp, hc, hcl⟩ := M.exists_least_other hp.out h3
  have hodd' : odd % 2 = 1 := by
    have := fun e => hodd (Nat.dvd_of_mod_eq_zero e)
    omega
  have ho' : p - 1 = odd * 2 ^ tw := by rw [ho, Nat.mul_comm]
  have hT := Lib.hid (M.Ton.start hp.out h3 ha1 hap ha.out (by omega) hcp hc ho' hodd')
  have htw : tw ≤ 30 := M.lt_of_two_pow (e := tw) (n := p - 1) (by rw [ho]; exact Nat.le_mul_of_pos_right _ hodd1) (by omega)
  have hoddp : odd ≤ p - 1 := by rw [ho]; exact Nat.le_mul_of_pos_left _ (Nat.pow_pos (by omega))
  have HC : Hid (M.pw c (((p : Int) - 1) / 2) p ≠ 1 ∧ ∀ d : Int, 2 ≤ d → d < c → M.pw d (((p : Int) - 1) / 2) p = 1) := by
    have e2 : ((p : Int) - 1) / 2 = (((p - 1) / 2 : Nat) : Int) := by omega
    refine ⟨?_, fun d hd hdc => ?_⟩
    · rw [e2, pw_nat]; exact_mod_cast hc
    · obtain ⟨D, rfl⟩ := Int.eq_ofNat_of_zero_le (show 0 ≤ d by omega)
      rw [e2, pw_nat]; exact_mod_cast hcl D (by omega) (by omega)
  have HO := Lib.hid (And.intro ho' hodd')
  clear ho ho' hodd hc hcl hodd'
  go_enter Try.func39, Try.ntmps39
  go_wp2
  go_loop [5, 6] (fun x y => ∃ k o : Nat, y = .int .i64 k ∧ x = .int .i64 o ∧ k ≤ tw ∧ 1 ≤ o ∧ o ≤ 2147483647 ∧ Hid (o = odd * 2 ^ (tw - k))) (fun _ y => tw - (intOf y).toNat)
  case atStart => exact ⟨0, p - 1, rfl, by congr 1; omega, by omega, by omega, by omega, HO.out.1⟩
  case round =>
    obtain ⟨k, o, rfl, rfl, hk, ho1, ho2, HOK⟩ := hrel
    by_cases hlt : k < tw
    · have hdiv : o = 2 * (odd * 2 ^ (tw - (k + 1))) := by
        rw [HOK.out, show tw - k = (tw - (k + 1)) + 1 by omega, Nat.pow_succ]; ac_rfl
      have ht : ((o : Int) % 2 == 0) = true := by rw [beq_iff_eq]; omega
      have HD := Lib.hid hdiv
      have hge : 2 ≤ o := by omega
      clear hdiv
      go_wp2
      go_round
      case rel => exact ⟨k + 1, o / 2, by go_num, rfl, by omega, by omega, by omega, by have := HD.out; show _ = _; omega⟩
      case measure => simp [intOf]; omega
    · obtain rfl : k = tw := by omega
      have hoo : o = odd := by rw [HOK.out]; simp
      have ht : ((o : Int) % 2 == 0) = false := by rw [beq_eq_false_iff_ne]; have := HO.out.2; omega
      have HOO := Lib.hid hoo
      clear hoo
      go_wp2_with (fail)
      refine (leastOther_is p c _ (by omega) (by omega) hc2 (by omega) HC).mono ?_
      rintro e w' ⟨rfl, rfl⟩
      go_wp2_with (go_at_call 41; refine (raise_any _ _ _ _ (by omega) (by omega) (by omega) (by omega) (by omega)).mono ?_; rintro e w' ⟨rfl, rfl⟩)
      go_loop [6, 7, 8, 9] (fun t u r x => ∃ tw' root turn ex : Nat, t = .int .i64 tw' ∧ u = .int .i64 turn ∧ r = .int .i64 root ∧ x = .int .i64 ex ∧ tw' ≤ 30 ∧ Hid (M.Ton a p tw' root turn ex)) (fun t _ _ _ => (intOf t).toNat)
      case atStart => exact ⟨k, _, _, _, rfl, congrArg _ (pw_nat c o p), congrArg _ (by rw [show ((o : Int) + 1) / 2 = (((o + 1) / 2 : Nat) : Int) by omega]; exact pw_nat a _ p), congrArg _ (pw_nat a o p), by omega, by have := hT.out; rw [← HOO.out] at this; exact this⟩
      case round =>
        obtain ⟨t, root, turn, ex, rfl, rfl, rfl, rfl, htl, HT⟩ := hrel
        have b1 := HT.out.root_lt
        have b2 := HT.out.turn_lt
        have b3 := HT.out.ex_lt
        by_cases hex : ex = 1
        · have hfin := Lib.hid (show root * root % p = a by have := HT.out; rw [hex] at this; exact this.finish hap)
          have hne : ((ex : Int) != 1) = false := by simp [hex]
          have hne2 : ((ex : Int) == 1) = true := by simp [hex]
          clear hex
          go_wp2
          go_ret
          exact ⟨root, rfl, by omega, by omega, by rw [mulmod_cast]; exact congrArg _ hfin.out, rfl⟩
        · obtain ⟨h, hsq, hlt'⟩ := HT.out.tw_lt
          have HS := Lib.hid (HT.out.step hp.out hex hsq)
          have HQ := Lib.hid hsq
          have hh1 := HS.out.1
          have hne : ((ex : Int) != 1) = true := by simp; omega
          have hne2 : ((ex : Int) == 1) = false := by simp; omega
          clear hex hsq
          go_wp2_with (go_at_call 53; refine (squarings_is ex p h _ (by omega) (by omega) (by omega) (by omega) HQ).mono ?_; rintro e w' ⟨rfl, rfl⟩)
          have hsh : wrap64 ((2 : Int) ^ (t - h - 1)) = ((2 ^ (t - h - 1) : Nat) : Int) := by
            have h1 : 2 ^ (t - h - 1) ≤ 2 ^ 30 := Nat.pow_le_pow_right (by omega) (by omega)
            rw [show ((2 : Int) ^ (t - h - 1)) = ((2 ^ (t - h - 1) : Nat) : Int) by simp]
            generalize 2 ^ (t - h - 1) = V at h1
            exact IntWalk.wrap64_in _ ⟨by omega, by omega⟩
          rw [hsh]
          clear hsh
          have hle : 2 ^ (t - h - 1) ≤ 1073741824 := Nat.pow_le_pow_right (n := 2) (by omega) (show t - h - 1 ≤ 30 by omega)
          obtain ⟨S, hS⟩ : ∃ S, turn ^ 2 ^ (t - h - 1) % p = S := ⟨_, rfl⟩
          have hSl : S < p := by rw [← hS]; exact Nat.mod_lt _ (by omega)
          have HS2 := Lib.hid hS
          rw [hS] at HS
          clear hS
          refine (raise_is turn (2 ^ (t - h - 1)) p S _ (by omega) (by omega) (by omega) HS2).mono ?_
          rintro e w' ⟨rfl, rfl⟩
          clear hle
          have m1 := M.mul_bd root S p (by omega) (by omega) (by omega) (by omega) (by omega)
          have m2 := M.mul_bd S S p (by omega) (by omega) (by omega) (by omega) (by omega)
          have m4 := emod_bd ((S : Int) * (S : Int)) p (by omega)
          have m3 := M.mul_bd ex ((S : Int) * (S : Int) % p) p (by omega) (by omega) m4.1 m4.2 (by omega)
          go_wp2
          go_round
          case rel =>
            exact ⟨h, root * S % p, S * S % p, ex * (S * S % p) % p, rfl, congrArg _ (mulmod_cast S S p), congrArg _ (mulmod_cast root S p), congrArg _ (by rw [mulmod_cast S S p]; exact mulmod_cast ex _ p), by omega, HS.out.2.2⟩
          case measure => simp [intOf]; omega

/-! ### Root -/
def RootOk (a p : Int) (w : World) (e : Ending) (w' : World) : Prop := ∃ x : Int, e = .returned (.tuple #[.int .i64 x, .int .i64 0]) ∧ 0 ≤ x ∧ x < p ∧ x * x % p = a ∧ (x = 0 ∨ x ≤ p - x) ∧ Below w.heap.size w w'

set_option maxHeartbeats 400000 in
theorem Root_arg (a p : Int) (w : World) (h : Hid (¬ (0 ≤ a ∧ a < p ∧ PrI p))) :
    Calls Try.prog 21 #[.int .i64 a, .int .i64 p] w fun x w' => x = .returned (.tuple #[.int .i64 0, .int .i64 2]) ∧ Below w.heap.size w w' := by
  by_cases hr : 0 ≤ a ∧ a < p ∧ p ≤ 2147483647
  · have hp : Hid (¬ PrI p) := fun hp => h.out ⟨hr.1, hr.2.1, hp⟩
    obtain ⟨h1, h2, h3⟩ := hr
    go_enter Try.func21, Try.ntmps21
    go_wp2_with (first
      | (go_at_call 36; refine (isRest_yes _ _ _ (by omega) (by omega) (by omega)).mono ?_; rintro e w' ⟨rfl, rfl⟩)
      | (go_at_call 37; refine (isPrime_no _ _ hp).mono ?_; rintro e w1 ⟨rfl, hB⟩; have HB := Lib.hid hB; clear hB))
    go_ret2
    exact ⟨rfl, HB.out⟩
  · go_enter Try.func21, Try.ntmps21
    go_wp2_with (first
      | (go_at_call 36; refine (isRest_no _ _ _ hr).mono ?_; rintro e w' ⟨rfl, rfl⟩))
    go_ret2
    exact ⟨rfl, Below.refl _ _⟩

set_option maxHeartbeats 400000 in
theorem Root_none (a p : Int) (w : World) (ha : 1 ≤ a) (hap : a < p) (hp3 : 3 ≤ p) (hp : Hid (PrI p)) (hn : (M.pw a ((p - 1) / 2) p == 1) = false) :
    Calls Try.prog 21 #[.int .i64 a, .int .i64 p] w fun x w' => x = .returned (.tuple #[.int .i64 0, .int .i64 6]) ∧ Below w.heap.size w w' := by
  have hm := hp.out.2.1
  have hz1 : ((a : Int) == 0) = false := by simp; omega
  have hz2 : ((p : Int) == 2) = false := by simp; omega
  have HN := Lib.hid hn
  clear hn
  go_enter Try.func21, Try.ntmps21
  go_wp2_with (first
    | (go_at_call 36; refine (isRest_yes _ _ _ (by omega) (by omega) (by omega)).mono ?_; rintro e w' ⟨rfl, rfl⟩)
    | (go_at_call 37; refine (isPrime_yes _ _ hp).mono ?_; rintro e w1 ⟨rfl, hB⟩; have HB := Lib.hid hB; clear hB)
    | (go_at_call 38; refine (isSquare_is _ _ false _ (by omega) (by omega) (by omega) HN.out).mono ?_; rintro e w' ⟨rfl, rfl⟩))
  go_ret2
  exact ⟨rfl, HB.out⟩

set_option maxHeartbeats 400000 in
theorem Root_easy (a p : Int) (w : World) (ha : 0 ≤ a) (hap : a < p) (hp : Hid (PrI p)) (he : a = 0 ∨ p = 2) :
    Calls Try.prog 21 #[.int .i64 a, .int .i64 p] w (RootOk a p w) := by
  have hm := hp.out.2.1
  by_cases h0 : a = 0
  · subst h0
    clear he
    go_enter Try.func21, Try.ntmps21
    go_wp2_with (first
      | (go_at_call 36; refine (isRest_yes _ _ _ (by omega) (by omega) (by omega)).mono ?_; rintro e w' ⟨rfl, rfl⟩)
      | (go_at_call 37; refine (isPrime_yes _ _ hp).mono ?_; rintro e w1 ⟨rfl, hB⟩; have HB := Lib.hid hB; clear hB))
    go_ret2
    exact ⟨0, rfl, by omega, by omega, by simp, .inl rfl, HB.out⟩
  · obtain rfl : p = 2 := by omega
    obtain rfl : a = 1 := by omega
    go_enter Try.func21, Try.ntmps21
    go_wp2_with (first
      | (go_at_call 36; refine (isRest_yes _ _ _ (by omega) (by omega) (by omega)).mono ?_; rintro e w' ⟨rfl, rfl⟩)
      | (go_at_call 37; refine (isPrime_yes _ _ hp).mono ?_; rintro e w1 ⟨rfl, hB⟩; have HB := Lib.hid hB; clear hB))
    go_ret2
    exact ⟨1, rfl, by omega, by omega, by decide, .inr (by omega), HB.out⟩

set_option maxHeartbeats 400000 in
theorem Root_ok (a p : Int) (w : World) (ha : 1 ≤ a) (hap : a < p) (hp3 : 3 ≤ p) (hp : Hid (PrI p)) (hn : (M.pw a ((p - 1) / 2) p == 1) = true) :
    Calls Try.prog 21 #[.int .i64 a, .int .i64 p] w (RootOk a p w) := by
  have hm := hp.out.2.1
  have hz1 : ((a : Int) == 0) = false := by simp; omega
  have hz2 : ((p : Int) == 2) = false := by simp; omega
  obtain ⟨A, rfl⟩ := Int.eq_ofNat_of_zero_le (show 0 ≤ a by omega)
  obtain ⟨P, rfl⟩ := Int.eq_ofNat_of_zero_le (show 0 ≤ p by omega)
  have hsq : Hid (A ^ ((P - 1) / 2) % P = 1) := by
    rw [beq_iff_eq, show ((P : Int) - 1) / 2 = (((P - 1) / 2 : Nat) : Int) by omega, pw_nat] at hn
    show _ = _; omega
  have hpr : Hid (M.Pr P) := by have := hp.out.2.2; rw [Int.toNat_natCast] at this; exact this
  have HN := Lib.hid hn
  clear hn
  go_enter Try.func21, Try.ntmps21
  go_wp2_with (first
    | (go_at_call 36; refine (isRest_yes _ _ _ (by omega) (by omega) (by omega)).mono ?_; rintro e w' ⟨rfl, rfl⟩)
    | (go_at_call 37; refine (isPrime_yes _ _ hp).mono ?_; rintro e w1 ⟨rfl, hB⟩; have HB := Lib.hid hB; clear hB)
    | (go_at_call 38; refine (isSquare_is _ _ true _ (by omega) (by omega) (by omega) HN.out).mono ?_; rintro e w' ⟨rfl, rfl⟩))
  refine (rootOf_is A P _ hpr (by omega) (by omega) (by omega) (by omega) hsq).mono ?_
  rintro e w' ⟨x, rfl, x0, xp, hx, rfl⟩
  have HX := Lib.hid hx
  clear hx
  have hxz : 1 ≤ x := by
    refine Classical.byContradiction fun hc => ?_
    obtain rfl : x = 0 := by omega
    have := HX.out; simp at this; omega
  by_cases hle : x ≤ P - x
  · go_wp2
    go_ret2
    exact ⟨x, rfl, by omega, by omega, HX.out, .inr hle, HB.out⟩
  · have hother : Hid (((P : Int) - x) * ((P : Int) - x) % (P : Int) = A) := by
      obtain ⟨X, rfl⟩ := Int.eq_ofNat_of_zero_le x0
      have := M.min_root (p := P) (x := X) (a := A) (by omega) (by have := HX.out; rw [mulmod_cast] at this; omega)
      show _ = _
      rw [show ((P : Int) - (X : Int)) = ((P - X : Nat) : Int) by omega, mulmod_cast, this]
    go_wp2
    go_ret2
    exact ⟨P - x, rfl, by omega, by omega, hother.out, .inr (by omega), HB.out⟩

end Go.Proofs.Ytldfbadcigdbkaa
