/- The start and the end of the way of Tonelli and Shanks. Nothing here speaks of the program. -/
import Derived.Test.YtldfbadcigdbkaaOAt
namespace Go.Proofs.Ytldfbadcigdbkaa.M

theorem exists_least_other {p : Nat} (hp : Pr p) (h3 : 3 ≤ p) : ∃ c, 2 ≤ c ∧ c < p ∧ c ^ ((p - 1) / 2) % p ≠ 1 ∧ ∀ d, 2 ≤ d → d < c → d ^ ((p - 1) / 2) % p = 1 := by
  obtain ⟨c, h1, h2, hc⟩ := exists_nonsquare hp h3
  suffices H : ∀ b c, c ≤ b → 2 ≤ c → c < p → c ^ ((p - 1) / 2) % p ≠ 1 → ∃ c, 2 ≤ c ∧ c < p ∧ c ^ ((p - 1) / 2) % p ≠ 1 ∧ ∀ d, 2 ≤ d → d < c → d ^ ((p - 1) / 2) % p = 1 from H c c (Nat.le_refl _) h1 h2 hc
  intro b
  induction b with
  | zero => intro c h0 h1; omega
  | succ b ih =>
    intro c hb h1 h2 hc
    by_cases h : ∃ d, 2 ≤ d ∧ d < c ∧ d ^ ((p - 1) / 2) % p ≠ 1
    · obtain ⟨d, hd1, hd2, hd3⟩ := h
      exact ih d (by omega) hd1 (by omega) hd3
    · exact ⟨c, h1, h2, hc, fun d hd1 hd2 => Classical.byContradiction fun hd3 => h ⟨d, hd1, hd2, hd3⟩⟩

theorem Ton.start {a p c odd tw : Nat} (hp : Pr p) (h3 : 3 ≤ p) (ha1 : 1 ≤ a) (hap : a < p) (ha : a ^ ((p - 1) / 2) % p = 1) (hc1 : 1 ≤ c) (hcp : c < p) (hc : c ^ ((p - 1) / 2) % p ≠ 1)
    (ho : p - 1 = odd * 2 ^ tw) (hodd : odd % 2 = 1) : Ton a p tw (a ^ ((odd + 1) / 2) % p) (c ^ odd % p) (a ^ odd % p) := by
  have hpo := odd_prime hp h3
  have htw : 1 ≤ tw := by
    apply Nat.pos_of_ne_zero; intro e; subst e
    simp at ho; omega
  have hhalf : odd * 2 ^ (tw - 1) = (p - 1) / 2 := by
    obtain ⟨k, rfl⟩ : ∃ k, tw = k + 1 := ⟨tw - 1, by omega⟩
    rw [Nat.pow_succ] at ho
    rw [Nat.add_sub_cancel, ho, ← Nat.mul_assoc, Nat.mul_div_cancel _ (by omega)]
  refine ⟨htw, ?_, ?_, ?_, Nat.mod_lt _ (by omega), Nat.mod_lt _ (by omega), Nat.mod_lt _ (by omega), ?_⟩
  · rw [← Nat.mul_mod, ← Nat.pow_add, Nat.mul_mod_mod, ← Nat.pow_succ', show (odd + 1) / 2 + (odd + 1) / 2 = odd.succ by omega]
  · rw [pow_zmod, hhalf]; exact half_neg hp h3 hc1 hcp hc
  · rw [pow_zmod, hhalf]; exact ha
  · apply Nat.pos_of_ne_zero
    intro e
    have := hp.dvd_pow (Nat.dvd_of_mod_eq_zero e)
    exact not_dvd_of_lt ha1 hap this

theorem Ton.finish {a p tw root turn : Nat} (T : Ton a p tw root turn 1) (ha : a < p) : root * root % p = a := by
  rw [T.sq, Nat.mul_one, Nat.mod_eq_of_lt ha]

theorem Ton.tw_lt {a p tw root turn ex : Nat} (T : Ton a p tw root turn ex) : ∃ h, IsSq ex p h ∧ h < tw := by
  obtain ⟨h, h1, h2⟩ := exists_sq T.ex_one
  exact ⟨h, h2, by have := T.tw1; omega⟩

theorem min_root {p x a : Nat} (hx : x < p) (h : x * x % p = a) : (p - x) * (p - x) % p = a := by
  by_cases h0 : x = 0
  · subst h0
    rw [Nat.sub_zero, Nat.mul_mod_right]
    simpa using h
  · have h1 : (p - x) * (p - x) % p = x * x % p := by
      have e : (p - x) * (p - x) + p * (2 * x) = x * x + p * p := by
        obtain ⟨y, rfl⟩ : ∃ y, p = x + y := ⟨p - x, by omega⟩
        rw [Nat.add_sub_cancel_left]
        grind
      have h2 := congrArg (· % p) e
      simp only [Nat.add_mul_mod_self_left] at h2
      exact h2
    rw [h1, h]

end Go.Proofs.Ytldfbadcigdbkaa.M
