/- Plain lemmas on numbers: powers modulo a number. Nothing here speaks of the program. -/
namespace Go.Proofs.YtbehihanhfmmhaaGreat.M

/-- The power modulo m, on integers that are not negative. -/
def pw (a e m : Int) : Int := ((a.toNat ^ e.toNat % m.toNat : Nat) : Int)

theorem pw_nonneg (a e m : Int) : 0 ≤ pw a e m := Int.natCast_nonneg _
theorem pw_lt (a e m : Int) (h : 1 ≤ m) : pw a e m < m := by
  unfold pw; have := Nat.mod_lt (a.toNat ^ e.toNat) (show 0 < m.toNat by omega); omega

theorem mul_bd (x y m : Int) (hx : 0 ≤ x) (hxm : x < m) (hy : 0 ≤ y) (hym : y < m) (hm : m ≤ 2147483647) : 0 ≤ x * y ∧ x * y ≤ 4611686014132420609 := by
  refine ⟨Int.mul_nonneg hx hy, ?_⟩
  have h1 : x * y ≤ 2147483647 * 2147483647 := Int.mul_le_mul (by omega) (by omega) hy (by omega)
  omega

/-- What a round of the loop keeps: r * s^e modulo m. -/
def keep (r s e m : Int) : Nat := (r.toNat * s.toNat ^ e.toNat) % m.toNat

theorem keep_start (a e m : Int) (hm : 1 ≤ m) : ((keep (1 % m) a e m : Nat) : Int) = pw a e m := by
  unfold keep pw
  congr 1
  have h1 : (1 % m).toNat = 1 % m.toNat := by
    obtain ⟨n, rfl⟩ := Int.eq_ofNat_of_zero_le (show 0 ≤ m by omega)
    rw [Int.toNat_natCast]; exact_mod_cast Int.toNat_natCast (1 % n)
  rw [h1, Nat.mod_mul_mod]; simp

theorem toNat_mulmod (x y m : Int) (hx : 0 ≤ x) (hy : 0 ≤ y) (hm : 0 ≤ m) : (x * y % m).toNat = x.toNat * y.toNat % m.toNat := by
  obtain ⟨a, rfl⟩ := Int.eq_ofNat_of_zero_le hx
  obtain ⟨b, rfl⟩ := Int.eq_ofNat_of_zero_le hy
  obtain ⟨c, rfl⟩ := Int.eq_ofNat_of_zero_le hm
  simp only [Int.toNat_natCast]
  exact_mod_cast Int.toNat_natCast (a * b % c)

theorem mulmod_bd (x y m : Int) (hm : 1 ≤ m) : 0 ≤ x * y % m ∧ x * y % m < m :=
  ⟨Int.emod_nonneg _ (by omega), Int.emod_lt_of_pos _ (by omega)⟩

theorem keep_odd (r s e m : Int) (hr : 0 ≤ r) (hs : 0 ≤ s) (he : 0 < e) (hm : 1 ≤ m) (ho : e % 2 = 1) : keep (r * s % m) (s * s % m) (e / 2) m = keep r s e m := by
  unfold keep
  rw [toNat_mulmod _ _ _ hr hs (by omega), toNat_mulmod _ _ _ hs hs (by omega)]
  have he2 : e.toNat = 2 * (e / 2).toNat + 1 := by omega
  rw [Nat.mod_mul_mod, Nat.mul_mod, ← Nat.pow_mod, ← Nat.mul_mod, he2, Nat.pow_succ, Nat.pow_mul, Nat.pow_two]
  rw [Nat.mul_assoc, Nat.mul_comm s.toNat]

theorem keep_even (r s e m : Int) (hs : 0 ≤ s) (he : 0 < e) (hm : 1 ≤ m) (ho : ¬ e % 2 = 1) : keep r (s * s % m) (e / 2) m = keep r s e m := by
  unfold keep
  rw [toNat_mulmod _ _ _ hs hs (by omega)]
  have he2 : e.toNat = 2 * (e / 2).toNat := by omega
  rw [Nat.mul_mod, ← Nat.pow_mod, ← Nat.mul_mod, he2, Nat.pow_mul, Nat.pow_two]

theorem keep_end (r s m : Int) (hr : 0 ≤ r) (hrm : r < m) : ((keep r s 0 m : Nat) : Int) = r := by
  unfold keep
  simp only [Int.toNat_zero, Nat.pow_zero, Nat.mul_one]
  rw [Nat.mod_eq_of_lt (by omega)]; omega

end Go.Proofs.YtbehihanhfmmhaaGreat.M
