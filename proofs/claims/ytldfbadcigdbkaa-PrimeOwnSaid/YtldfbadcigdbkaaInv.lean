/- The extended algorithm of Euclid, on integers. Nothing here speaks of the program. -/
import Derived.Test.YtldfbadcigdbkaaEul
namespace Go.Proofs.Ytldfbadcigdbkaa.M

structure Eu (a m r s x y : Int) : Prop where
  r0 : 1 ≤ r
  s0 : 0 ≤ s
  sr : s < r
  rm : r ≤ m
  gcd : Nat.gcd r.toNat s.toNat = 1
  dx : m ∣ x * a - r
  dy : m ∣ y * a - s
  sgn : (x ≤ 0 ∧ 0 ≤ y ∧ -x * s + y * r = m) ∨ (0 ≤ x ∧ y ≤ 0 ∧ x * s - y * r = m)
  xb : -m ≤ 2 * x ∧ 2 * x ≤ m

theorem Eu.start {a m : Int} (ha : 0 ≤ a) (ham : a < m) (hg : Nat.gcd a.toNat m.toNat = 1) : Eu a m m a 0 1 :=
  ⟨by omega, ha, ham, by omega, by rw [Nat.gcd_comm]; exact hg, by simp, by simp, .inl ⟨by omega, by omega, by simp⟩, by omega⟩

theorem Eu.ybound {a m r s x y : Int} (h : Eu a m r s x y) (hs : 0 < s) : -m ≤ 2 * y ∧ 2 * y ≤ m := by
  have hr : 2 ≤ r := by have := h.sr; omega
  rcases h.sgn with ⟨h1, h2, h3⟩ | ⟨h1, h2, h3⟩
  · have h4 : 0 ≤ -x * s := Int.mul_nonneg (by omega) (by omega)
    have h5 : y * 2 ≤ y * r := Int.mul_le_mul_of_nonneg_left hr h2
    omega
  · have h4 : 0 ≤ x * s := Int.mul_nonneg (by omega) (by omega)
    have h5 : -y * 2 ≤ -y * r := Int.mul_le_mul_of_nonneg_left hr (by omega)
    have h6 : -y * r = -(y * r) := Int.neg_mul ..
    omega

/-- All that a round computes is in range. -/
theorem Eu.step {a m r s x y : Int} (h : Eu a m r s x y) (hs : 0 < s) :
    0 ≤ r / s ∧ r / s ≤ r ∧ 0 ≤ r / s * s ∧ r / s * s ≤ r ∧ -m ≤ r / s * y ∧ r / s * y ≤ m ∧ -m ≤ x - r / s * y ∧ x - r / s * y ≤ m ∧ Eu a m s (r - r / s * s) y (x - r / s * y) := by
  have hr0 := h.r0
  have hq0 : 0 ≤ r / s := Int.ediv_nonneg (by omega) (by omega)
  have hq1 : r / s ≤ r := Int.ediv_le_self _ (by omega)
  have hdm := Int.mul_ediv_add_emod r s
  have hm0 := Int.emod_nonneg r (show s ≠ 0 by omega)
  have hm1 := Int.emod_lt_of_pos r hs
  have hcomm : s * (r / s) = r / s * s := Int.mul_comm ..
  have hgs : Nat.gcd s.toNat (r % s).toNat = 1 := by
    have h1 := h.gcd
    obtain ⟨R, rfl⟩ := Int.eq_ofNat_of_zero_le (show 0 ≤ r by omega)
    obtain ⟨S, rfl⟩ := Int.eq_ofNat_of_zero_le (show 0 ≤ s by omega)
    have e : ((R : Int) % (S : Int)).toNat = R % S := by exact_mod_cast Int.toNat_natCast (R % S)
    rw [e, Int.toNat_natCast, Nat.gcd_comm, ← Nat.gcd_rec, Nat.gcd_comm]
    exact h1
  have he : r - r / s * s = r % s := by omega
  have hyb := h.ybound hs
  have hdx := h.dx
  have hdy := h.dy
  generalize r / s = q at *
  have hsgn : ((y ≤ 0 ∧ 0 ≤ x - q * y ∧ -y * (r - q * s) + (x - q * y) * s = m) ∨ (0 ≤ y ∧ x - q * y ≤ 0 ∧ y * (r - q * s) - (x - q * y) * s = m)) := by
    rcases h.sgn with ⟨h1, h2, h3⟩ | ⟨h1, h2, h3⟩
    · right
      have : 0 ≤ q * y := Int.mul_nonneg hq0 h2
      exact ⟨h2, by omega, by grind⟩
    · left
      have : 0 ≤ q * -y := Int.mul_nonneg hq0 (by omega)
      have e : q * -y = -(q * y) := Int.mul_neg ..
      exact ⟨h2, by omega, by grind⟩
  have hb : -m ≤ x - q * y ∧ x - q * y ≤ m ∧ -m ≤ q * y ∧ q * y ≤ m := by
    have hrs0 : 0 ≤ r - q * s := by omega
    rcases hsgn with ⟨h1, h2, h3⟩ | ⟨h1, h2, h3⟩
    · have h4 : 0 ≤ -y * (r - q * s) := Int.mul_nonneg (by omega) hrs0
      have h5 : (x - q * y) * 1 ≤ (x - q * y) * s := Int.mul_le_mul_of_nonneg_left (by omega) h2
      rcases h.sgn with ⟨h6, h7, _⟩ | ⟨h6, h7, _⟩
      · have : 0 ≤ q * y := Int.mul_nonneg hq0 h7
        omega
      · have : 0 ≤ q * -y := Int.mul_nonneg hq0 (by omega)
        have e : q * -y = -(q * y) := Int.mul_neg ..
        omega
    · have h4 : 0 ≤ y * (r - q * s) := Int.mul_nonneg (by omega) hrs0
      have h5 : -(x - q * y) * 1 ≤ -(x - q * y) * s := Int.mul_le_mul_of_nonneg_left (by omega) (by omega)
      have h6 : -(x - q * y) * s = -((x - q * y) * s) := Int.neg_mul ..
      rcases h.sgn with ⟨h7, h8, _⟩ | ⟨h7, h8, _⟩
      · have : 0 ≤ q * y := Int.mul_nonneg hq0 h8
        omega
      · have : 0 ≤ q * -y := Int.mul_nonneg hq0 (by omega)
        have e : q * -y = -(q * y) := Int.mul_neg ..
        omega
  refine ⟨hq0, hq1, Int.mul_nonneg hq0 (by omega), by omega, hb.2.2.1, hb.2.2.2, hb.1, hb.2.1, ?_⟩
  refine ⟨by omega, by omega, by omega, by have := h.sr; have := h.rm; omega, by rw [he]; exact hgs, hdy, ?_, hsgn, hyb⟩
  have : (x - q * y) * a - (r - q * s) = (x * a - r) - q * (y * a - s) := by grind
  rw [this]
  exact Int.dvd_sub hdx (Int.dvd_trans hdy (Int.dvd_mul_left _ _))

theorem inv_unique {a m v i : Int} (hv0 : 0 ≤ v) (hvm : v < m) (hi0 : 0 ≤ i) (him : i < m) (hv : m ∣ v * a - 1) (hi : a * i % m = 1 % m) : v = i := by
  have h1 : m ∣ a * i - 1 := by
    have := Int.emod_emod_of_dvd
    exact Int.dvd_of_emod_eq_zero (by rw [Int.sub_emod, hi, Int.sub_self, Int.zero_emod])
  have h2 : m ∣ v - i := by
    have : v - i = (a * i - 1) * (-v) + (v * a - 1) * i := by grind
    rw [this]
    exact Int.dvd_add (Int.dvd_trans h1 (Int.dvd_mul_right _ _)) (Int.dvd_trans hv (Int.dvd_mul_right _ _))
  obtain ⟨k, hk⟩ := h2
  rcases (show k < 0 ∨ k = 0 ∨ 0 < k by omega) with h | h | h
  · have : m * k ≤ m * (-1) := Int.mul_le_mul_of_nonneg_left (by omega) (by omega)
    omega
  · subst h; simp at hk; omega
  · have : m * 1 ≤ m * k := Int.mul_le_mul_of_nonneg_left (by omega) (by omega)
    omega

theorem Eu.finish {a m r x y i : Int} (h : Eu a m r 0 x y) (hi0 : 0 ≤ i) (him : i < m) (hi : a * i % m = 1 % m) : (x < 0 → x + m = i) ∧ (0 ≤ x → x = i) ∧ -m < x ∧ x < m := by
  have hr : r = 1 := by
    have := h.gcd
    rw [Int.toNat_zero, Nat.gcd_zero_right] at this
    have := h.r0
    omega
  subst hr
  have hb := h.xb
  have hm : -m < x ∧ x < m := by omega
  refine ⟨fun h0 => ?_, fun h0 => ?_, hm.1, hm.2⟩
  · refine inv_unique (by omega) (by omega) hi0 him ?_ hi
    have : (x + m) * a - 1 = (x * a - 1) + m * a := by grind
    rw [this]
    exact Int.dvd_add h.dx (Int.dvd_mul_right _ _)
  · exact inv_unique h0 hm.2 hi0 him h.dx hi

/-- There is an inverse. -/
theorem exists_inv {a m : Int} (ha : 0 ≤ a) (ham : a < m) (hg : Nat.gcd a.toNat m.toNat = 1) : ∃ i, 0 ≤ i ∧ i < m ∧ a * i % m = 1 % m := by
  obtain ⟨A, rfl⟩ := Int.eq_ofNat_of_zero_le ha
  obtain ⟨N, rfl⟩ := Int.eq_ofNat_of_zero_le (show 0 ≤ m by omega)
  simp only [Int.toNat_natCast] at hg
  obtain ⟨l, hl⟩ := exists_fac N (by omega)
  have h1 := hl.1.euler (a := A) (by rw [hl.2]; exact hg)
  rw [hl.2] at h1
  have h2 := hl.1.phi_pos
  refine ⟨((A ^ (phiP l - 1) % N : Nat) : Int), by omega, by have := Nat.mod_lt (A ^ (phiP l - 1)) (show 0 < N by omega); omega, ?_⟩
  have h3 : A * (A ^ (phiP l - 1) % N) % N = 1 % N := by
    rw [Nat.mul_mod_mod, ← Nat.pow_succ', show (phiP l - 1).succ = phiP l by omega, h1]
  exact_mod_cast h3

theorem gcd_of_inv {a m i : Int} (ha : 0 ≤ a) (ham : a < m) (hi0 : 0 ≤ i) (hi : a * i % m = 1 % m) : Nat.gcd a.toNat m.toNat = 1 := by
  obtain ⟨A, rfl⟩ := Int.eq_ofNat_of_zero_le ha
  obtain ⟨N, rfl⟩ := Int.eq_ofNat_of_zero_le (show 0 ≤ m by omega)
  obtain ⟨I, rfl⟩ := Int.eq_ofNat_of_zero_le hi0
  simp only [Int.toNat_natCast]
  have h : A * I % N = 1 % N := by exact_mod_cast hi
  have h1 : Nat.gcd A N ∣ A * I % N := (Nat.dvd_mod_iff (Nat.gcd_dvd_right A N)).2 (Nat.dvd_trans (Nat.gcd_dvd_left A N) (Nat.dvd_mul_right _ _))
  rw [h] at h1
  exact Nat.dvd_one.1 ((Nat.dvd_mod_iff (Nat.gcd_dvd_right A N)).1 h1)

end Go.Proofs.Ytldfbadcigdbkaa.M
