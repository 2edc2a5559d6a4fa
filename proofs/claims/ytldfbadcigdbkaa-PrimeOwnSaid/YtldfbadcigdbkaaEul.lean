/- Euler's theorem; the way of Tonelli and Shanks; steps of logarithms; inverses and common numbers. Nothing here speaks of the program. -/
import Derived.Test.YtldfbadcigdbkaaFac
namespace Go.Proofs.Ytldfbadcigdbkaa.M

theorem binom (y : Nat) : ∀ n : Nat, ∃ c, (1 + y) ^ n = 1 + n * y + y * y * c
  | 0 => ⟨0, by simp⟩
  | n + 1 => by
    obtain ⟨c, hc⟩ := binom y n
    exact ⟨n + c + y * c, by rw [Nat.pow_succ, hc]; grind⟩

theorem mod_one_iff {x m : Nat} (hx : 1 ≤ x) : x % m = 1 % m ↔ m ∣ x - 1 := by
  constructor
  · intro h
    exact Nat.dvd_of_mod_eq_zero (Nat.sub_mod_eq_zero_of_mod_eq h)
  · rintro ⟨c, hc⟩
    rw [show x = 1 + m * c by omega, Nat.add_mul_mod_self_left]

theorem lift_one {x q j : Nat} (hx : 1 ≤ x) (hj : 1 ≤ j) (h : x % q ^ j = 1 % q ^ j) : x ^ q % q ^ (j + 1) = 1 % q ^ (j + 1) := by
  obtain ⟨t, ht⟩ := (mod_one_iff hx).1 h
  rw [mod_one_iff (Nat.pow_pos (by omega))]
  obtain ⟨c, hc⟩ := binom (x - 1) q
  rw [show 1 + (x - 1) = x by omega] at hc
  rw [hc]
  obtain ⟨i, rfl⟩ : ∃ i, j = i + 1 := ⟨j - 1, by omega⟩
  refine ⟨t + q ^ i * t * t * c, ?_⟩
  rw [ht, Nat.pow_succ, Nat.pow_succ]
  have : 1 + q * (q ^ i * q * t) + q ^ i * q * t * (q ^ i * q * t) * c - 1 = q * (q ^ i * q * t) + q ^ i * q * t * (q ^ i * q * t) * c := by omega
  rw [this]
  grind

theorem euler_pow {a q : Nat} (hq : Pr q) (ha : ¬ q ∣ a) : ∀ j, a ^ (q ^ j * (q - 1)) % q ^ (j + 1) = 1 % q ^ (j + 1)
  | 0 => by
    rw [Nat.pow_zero, Nat.one_mul, Nat.pow_one, fermat hq ha, mod_of_one_lt hq.1]
  | j + 1 => by
    have ih := euler_pow hq ha j
    have ha0 : 1 ≤ a := by apply Nat.pos_of_ne_zero; intro e; subst e; exact ha (Nat.dvd_zero q)
    have := lift_one (Nat.pow_pos ha0) (by omega) ih
    rw [← Nat.pow_mul] at this
    rw [Nat.pow_succ, show q ^ j * q * (q - 1) = q ^ j * (q - 1) * q by ac_rfl]
    exact this

def phiP : List (Nat × Nat) → Nat
  | [] => 1
  | x :: l => x.1 ^ (x.2 - 1) * (x.1 - 1) * phiP l

theorem FacFrom.phi_pos {lo : Nat} {l : List (Nat × Nat)} (h : FacFrom lo l) : 1 ≤ phiP l := by
  induction l generalizing lo with
  | nil => simp [phiP]
  | cons x l ih =>
    have h2 := h.2.1.1
    exact Nat.mul_pos (Nat.mul_pos (Nat.pow_pos (by omega)) (by omega)) (ih h.2.2.2)

theorem FacFrom.take {lo : Nat} {l : List (Nat × Nat)} (h : FacFrom lo l) (k : Nat) : FacFrom lo (l.take k) := by
  induction l generalizing lo k with
  | nil => simp; trivial
  | cons x l ih =>
    cases k with
    | zero => trivial
    | succ k => exact ⟨h.1, h.2.1, h.2.2.1, ih h.2.2.2 k⟩

theorem FacFrom.phi_le {lo : Nat} {l : List (Nat × Nat)} (h : FacFrom lo l) : phiP l ≤ prodP l := by
  induction l generalizing lo with
  | nil => simp [phiP, prodP]
  | cons x l ih =>
    have h2 := h.2.1.1
    have h3 := h.2.2.1
    refine Nat.mul_le_mul ?_ (ih h.2.2.2)
    obtain ⟨k, hk⟩ : ∃ k, x.2 = k + 1 := ⟨x.2 - 1, by omega⟩
    rw [hk, Nat.add_sub_cancel, Nat.pow_succ]
    exact Nat.mul_le_mul_left _ (by omega)

theorem FacFrom.euler {lo a : Nat} {l : List (Nat × Nat)} (h : FacFrom lo l) (ha : Nat.Coprime a (prodP l)) : a ^ phiP l % prodP l = 1 % prodP l := by
  induction l generalizing lo with
  | nil => simp [prodP, Nat.mod_one]
  | cons x l ih =>
    have hx2 := h.2.1.1
    have hxe := h.2.2.1
    by_cases hl1 : prodP (x :: l) = 1
    · rw [hl1, Nat.mod_one, Nat.mod_one]
    have ha0 : 1 ≤ a := by
      apply Nat.pos_of_ne_zero; intro e; subst e
      rw [Nat.coprime_zero_left] at ha; exact hl1 ha
    have hdx : x.1 ∣ prodP (x :: l) := dvd_prodP (by simp) hxe
    have hnx : ¬ x.1 ∣ a := fun hd => by
      have := Nat.dvd_gcd hd hdx
      rw [ha] at this
      have := Nat.le_of_dvd (by omega) this
      omega
    have hcl : Nat.Coprime a (prodP l) := Nat.Coprime.coprime_dvd_right (Nat.dvd_mul_left _ _) ha
    have h1 := euler_pow h.2.1 hnx (x.2 - 1)
    rw [show x.2 - 1 + 1 = x.2 by omega] at h1
    have h2 := pow_one_mul h1 (phiP l)
    have h3 := pow_one_mul (ih h.2.2.2 hcl) (x.1 ^ (x.2 - 1) * (x.1 - 1))
    rw [Nat.mul_comm] at h3
    have hp : 1 ≤ a ^ (x.1 ^ (x.2 - 1) * (x.1 - 1) * phiP l) := Nat.pow_pos ha0
    rw [mod_one_iff hp] at h2 h3
    show a ^ (x.1 ^ (x.2 - 1) * (x.1 - 1) * phiP l) % (x.1 ^ x.2 * prodP l) = 1 % (x.1 ^ x.2 * prodP l)
    rw [mod_one_iff hp]
    have hc : Nat.Coprime (x.1 ^ x.2) (prodP l) := by
      simpa using Nat.Coprime.pow_left x.2 (h.2.1.cop (h.2.2.2.not_dvd h.2.1))
    exact hc.mul_dvd_of_dvd_of_dvd h2 h3

/-! ### Roots -/
theorem sq_one {p z : Nat} (hp : Pr p) (h : z * z % p = 1) (h1 : z % p ≠ 1) : z % p = p - 1 := by
  have hp2 := hp.1
  have hz0 : 1 ≤ z := by apply Nat.pos_of_ne_zero; intro e; subst e; simp at h
  have hzz : 1 ≤ z * z := Nat.mul_pos hz0 hz0
  have hd : p ∣ z * z - 1 := (mod_one_iff hzz).1 (by rw [h, mod_of_one_lt hp2])
  have he : z * z - 1 = (z - 1) * (z + 1) := by
    obtain ⟨k, rfl⟩ : ∃ k, z = k + 1 := ⟨z - 1, by omega⟩
    have : (k + 1) * (k + 1) = k * k + 2 * k + 1 := by grind
    have h4 : k * (k + 1 + 1) = k * k + 2 * k := by grind
    rw [this, Nat.add_sub_cancel, Nat.add_sub_cancel, h4]
  rw [he] at hd
  rcases hp.dvd_mul hd with h2 | h2
  · exact absurd (by rw [(mod_one_iff hz0).2 h2, mod_of_one_lt hp2]) h1
  · obtain ⟨c, hc⟩ := h2
    have hc0 : 1 ≤ c := by apply Nat.pos_of_ne_zero; intro e; subst e; omega
    obtain ⟨k, rfl⟩ : ∃ k, c = k + 1 := ⟨c - 1, by omega⟩
    have : z = (p - 1) + p * k := by rw [Nat.mul_succ] at hc; omega
    rw [this, Nat.add_mul_mod_self_left, Nat.mod_eq_of_lt (by omega)]

theorem neg_sq {p x y : Nat} (hp : 2 ≤ p) (hx : x % p = p - 1) (hy : y % p = p - 1) : x * y % p = 1 := by
  rw [Nat.mul_mod, hx, hy]
  obtain ⟨k, rfl⟩ : ∃ k, p = k + 2 := ⟨p - 2, by omega⟩
  rw [show k + 2 - 1 = k + 1 by omega, show (k + 1) * (k + 1) = 1 + (k + 2) * k by grind, Nat.add_mul_mod_self_left, mod_of_one_lt (by omega)]

/-- A remainder that is no square: its power with half the exponent is -1. -/
theorem exists_nonsquare {p : Nat} (hp : Pr p) (h3 : 3 ≤ p) : ∃ c, 2 ≤ c ∧ c < p ∧ c ^ ((p - 1) / 2) % p ≠ 1 := by
  obtain ⟨x, h1, h2, hx⟩ := exists_other hp (d := (p - 1) / 2) (by omega) (by omega)
  refine ⟨x, ?_, h2, hx⟩
  by_cases e : x = 1
  · subst e; rw [Nat.one_pow, mod_of_one_lt (by omega)] at hx; exact absurd rfl hx
  · omega

theorem odd_prime {p : Nat} (hp : Pr p) (h3 : 3 ≤ p) : p % 2 = 1 := by
  by_cases h : p % 2 = 0
  · rcases hp.2 2 (Nat.dvd_of_mod_eq_zero h) with h1 | h1 <;> omega
  · omega

theorem half_neg {p c : Nat} (hp : Pr p) (h3 : 3 ≤ p) (h1 : 1 ≤ c) (h2 : c < p) (hc : c ^ ((p - 1) / 2) % p ≠ 1) : c ^ ((p - 1) / 2) % p = p - 1 := by
  refine sq_one hp ?_ hc
  have ho := odd_prime hp h3
  rw [← Nat.pow_add, show (p - 1) / 2 + (p - 1) / 2 = p - 1 by omega]
  exact fermat hp (not_dvd_of_lt h1 h2)

/-- What a round of the way of Tonelli and Shanks keeps. -/
structure Ton (a p tw root turn ex : Nat) : Prop where
  tw1 : 1 ≤ tw
  sq : root * root % p = a * ex % p
  turn_neg : turn ^ 2 ^ (tw - 1) % p = p - 1
  ex_one : ex ^ 2 ^ (tw - 1) % p = 1
  root_lt : root < p
  turn_lt : turn < p
  ex_lt : ex < p
  ex_pos : 1 ≤ ex

/-- The count of squarings. -/
structure IsSq (x p h : Nat) : Prop where
  one : x ^ 2 ^ h % p = 1
  least : ∀ k, k < h → x ^ 2 ^ k % p ≠ 1

theorem exists_sq {x p n : Nat} (h : x ^ 2 ^ n % p = 1) : ∃ k, k ≤ n ∧ IsSq x p k := by
  induction n with
  | zero => exact ⟨0, Nat.le_refl _, h, fun k hk => by omega⟩
  | succ n ih =>
    by_cases h1 : ∃ k, k ≤ n ∧ x ^ 2 ^ k % p = 1
    · obtain ⟨k, hk, hk1⟩ := h1
      suffices H : ∀ b k, k ≤ b → x ^ 2 ^ k % p = 1 → ∃ k', k' ≤ k ∧ IsSq x p k' by
        obtain ⟨k', h2, h3⟩ := H k k (Nat.le_refl _) hk1
        exact ⟨k', by omega, h3⟩
      intro b
      induction b with
      | zero => intro k hk hx; exact ⟨k, Nat.le_refl _, hx, fun j hj => by omega⟩
      | succ b ihb =>
        intro k hk hx
        by_cases h4 : ∃ j, j < k ∧ x ^ 2 ^ j % p = 1
        · obtain ⟨j, hj, hj1⟩ := h4
          obtain ⟨k', h5, h6⟩ := ihb j (by omega) hj1
          exact ⟨k', by omega, h6⟩
        · exact ⟨k, Nat.le_refl _, hx, fun j hj hj1 => h4 ⟨j, hj, hj1⟩⟩
    · exact ⟨n + 1, Nat.le_refl _, h, fun k hk hk1 => h1 ⟨k, by omega, hk1⟩⟩

theorem Ton.step {a p tw root turn ex h : Nat} (hp : Pr p) (T : Ton a p tw root turn ex) (hex : ex ≠ 1) (hh : IsSq ex p h) :
    1 ≤ h ∧ h < tw ∧ Ton a p h (root * (turn ^ 2 ^ (tw - h - 1) % p) % p) ((turn ^ 2 ^ (tw - h - 1) % p) * (turn ^ 2 ^ (tw - h - 1) % p) % p)
      (ex * ((turn ^ 2 ^ (tw - h - 1) % p) * (turn ^ 2 ^ (tw - h - 1) % p) % p) % p) := by
  have hp2 := hp.1
  have h1 : 1 ≤ h := by
    apply Nat.pos_of_ne_zero; intro e; subst e
    have := hh.one
    rw [Nat.pow_zero, Nat.pow_one, Nat.mod_eq_of_lt T.ex_lt] at this
    exact hex this
  have h2 : h < tw := by
    refine Classical.byContradiction fun hn => ?_
    have := T.tw1
    exact hh.least (tw - 1) (by omega) T.ex_one
  have ht1 := T.tw1
  have hstep : (turn ^ 2 ^ (tw - h - 1) % p) * (turn ^ 2 ^ (tw - h - 1) % p) % p = turn ^ 2 ^ (tw - h) % p := by
    rw [← Nat.mul_mod, ← Nat.pow_add]
    congr 2
    rw [← Nat.mul_two, ← Nat.pow_succ]; congr 1; omega
  have hnz : ∀ n, turn ^ n % p ≠ 0 := by
    intro n hz
    have h3 := hp.dvd_pow (Nat.dvd_of_mod_eq_zero hz)
    have h4 : turn ^ 2 ^ (tw - 1) % p = 0 := Nat.mod_eq_zero_of_dvd (Nat.dvd_trans h3 (by
      obtain ⟨j, hj⟩ : ∃ j, 2 ^ (tw - 1) = j + 1 := ⟨2 ^ (tw - 1) - 1, by have := Nat.pow_pos (n := tw - 1) (show 0 < 2 by omega); omega⟩
      rw [hj, Nat.pow_succ]; exact Nat.dvd_mul_left _ _))
    have := T.turn_neg
    omega
  have hturn : (turn ^ 2 ^ (tw - h) % p) ^ 2 ^ (h - 1) % p = p - 1 := by
    rw [pow_zmod, ← Nat.pow_add, show tw - h + (h - 1) = tw - 1 by omega]
    exact T.turn_neg
  refine ⟨h1, h2, h1, ?_, ?_, ?_, Nat.mod_lt _ (by omega), Nat.mod_lt _ (by omega), Nat.mod_lt _ (by omega), ?_⟩
  · rw [hstep]
    have hs := hstep
    generalize turn ^ 2 ^ (tw - h - 1) % p = s at *
    rw [← Nat.mul_mod, show root * s * (root * s) = (root * root) * (s * s) by ac_rfl, Nat.mul_mod, T.sq, hs, Nat.mod_mul_mod, Nat.mul_mod_mod, Nat.mul_mod_mod, ← Nat.mul_assoc a ex, Nat.mul_mod_mod]
  · rw [hstep]; exact hturn
  · rw [hstep, ← Nat.pow_mod, Nat.mul_pow]
    refine neg_sq hp2 ?_ hturn
    refine sq_one hp ?_ (hh.least (h - 1) (by omega))
    rw [← Nat.pow_add, ← Nat.mul_two, ← Nat.pow_succ, show (h - 1).succ = h by omega]
    exact hh.one
  · apply Nat.pos_of_ne_zero
    intro e
    rw [hstep] at e
    rcases hp.dvd_mul (Nat.dvd_of_mod_eq_zero e) with h3 | h3
    · have := Nat.le_of_dvd T.ex_pos h3
      have := T.ex_lt
      omega
    · have h4 := Nat.mod_lt (turn ^ 2 ^ (tw - h)) (show 0 < p by omega)
      have := Nat.le_of_dvd (Nat.pos_of_ne_zero (hnz _)) h3
      omega

end Go.Proofs.Ytldfbadcigdbkaa.M
