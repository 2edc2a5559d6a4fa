/- Plain number theory, from the ground: primes, Fermat, orders. Nothing here speaks of the program. -/
namespace Go.Proofs.Ytldfbadcigdbkaa.M

def Pr (p : Nat) : Prop := 2 ≤ p ∧ ∀ d, d ∣ p → d = 1 ∨ d = p

theorem Pr.two {p : Nat} (h : Pr p) : 2 ≤ p := h.1

theorem Pr.cop {p a : Nat} (h : Pr p) (ha : ¬ p ∣ a) : Nat.Coprime p a := by
  rcases h.2 (Nat.gcd p a) (Nat.gcd_dvd_left p a) with h1 | h1
  · exact h1
  · exact absurd (h1 ▸ Nat.gcd_dvd_right p a) ha

theorem Pr.dvd_mul {p a b : Nat} (h : Pr p) (hd : p ∣ a * b) : p ∣ a ∨ p ∣ b := by
  by_cases ha : p ∣ a
  · exact .inl ha
  · exact .inr ((h.cop ha).dvd_of_dvd_mul_left hd)

theorem Pr.dvd_pow {p a : Nat} (h : Pr p) : ∀ {n : Nat}, p ∣ a ^ n → p ∣ a
  | 0, hd => by rw [Nat.pow_zero] at hd; have := Nat.le_of_dvd (by omega) hd; have := h.1; omega
  | n + 1, hd => by
    rw [Nat.pow_succ] at hd
    rcases h.dvd_mul hd with h1 | h1
    · exact Pr.dvd_pow h h1
    · exact h1

theorem not_dvd_of_lt {p a : Nat} (h0 : 0 < a) (h : a < p) : ¬ p ∣ a := fun hd => by have := Nat.le_of_dvd h0 hd; omega

/-- The least divisor from 2 on is a prime. -/
theorem least_prime {n d : Nat} (h2 : 2 ≤ d) (hd : d ∣ n) (hmin : ∀ k, 2 ≤ k → k ∣ n → d ≤ k) : Pr d := by
  refine ⟨h2, fun k hk => ?_⟩
  have hk0 : 0 < k := Nat.pos_of_dvd_of_pos hk (by omega)
  by_cases h1 : k = 1
  · exact .inl h1
  · have := hmin k (by omega) (Nat.dvd_trans hk hd)
    have := Nat.le_of_dvd (by omega) hk
    exact .inr (by omega)

theorem exists_least (n : Nat) (h : 2 ≤ n) : ∃ d, 2 ≤ d ∧ d ∣ n ∧ ∀ k, 2 ≤ k → k ∣ n → d ≤ k := by
  suffices H : ∀ m, (∃ d, 2 ≤ d ∧ d ∣ n ∧ d ≤ m) → ∃ d, 2 ≤ d ∧ d ∣ n ∧ ∀ k, 2 ≤ k → k ∣ n → d ≤ k from H n ⟨n, h, Nat.dvd_refl n, Nat.le_refl n⟩
  intro m
  induction m with
  | zero => rintro ⟨d, h1, _, h3⟩; omega
  | succ m ih =>
    rintro ⟨d, h1, h2, h3⟩
    by_cases hm : ∃ d, 2 ≤ d ∧ d ∣ n ∧ d ≤ m
    · exact ih hm
    · refine ⟨d, h1, h2, fun k hk hkn => ?_⟩
      by_cases hkm : k ≤ m
      · exact absurd ⟨k, hk, hkn, hkm⟩ hm
      · omega

theorem exists_prime (n : Nat) (h : 2 ≤ n) : ∃ p, Pr p ∧ p ∣ n := by
  obtain ⟨d, h1, h2, h3⟩ := exists_least n h
  exact ⟨d, least_prime h1 h2 h3, h2⟩

/-! ### Lists -/
theorem perm_of_nodup {l₁ l₂ : List Nat} (h1 : l₁.Nodup) (hs : l₁ ⊆ l₂) (hl : l₂.length ≤ l₁.length) : l₁.Perm l₂ := by
  induction l₁ generalizing l₂ with
  | nil => have : l₂ = [] := List.eq_nil_of_length_eq_zero (by simpa using hl); subst this; exact List.Perm.refl _
  | cons a l ih =>
    have ha : a ∈ l₂ := hs (by simp)
    have hp := List.perm_cons_erase ha
    refine List.Perm.trans (List.Perm.cons a (ih (List.nodup_cons.1 h1).2 ?_ ?_)) hp.symm
    · intro x hx
      have hxa : x ≠ a := fun e => (List.nodup_cons.1 h1).1 (e ▸ hx)
      exact (List.mem_erase_of_ne hxa).2 (hs (by simp [hx]))
    · rw [List.length_erase_of_mem ha]; simp at hl; omega

theorem prod_perm {l₁ l₂ : List Nat} (h : l₁.Perm l₂) : l₁.prod = l₂.prod := by
  induction h with
  | nil => rfl
  | cons x _ ih => simp [ih]
  | swap x y l => simp [Nat.mul_left_comm]
  | trans _ _ h1 h2 => exact h1.trans h2

theorem prod_mod_map (a p : Nat) (l : List Nat) : (l.map fun i => a * i % p).prod % p = a ^ l.length * l.prod % p := by
  induction l with
  | nil => simp
  | cons x l ih =>
    simp only [List.map_cons, List.prod_cons, List.length_cons]
    rw [Nat.mul_mod, ih, Nat.mod_mod, ← Nat.mul_mod]
    congr 1
    rw [Nat.pow_succ]; ac_rfl

theorem Pr.not_dvd_prod {p : Nat} (h : Pr p) {l : List Nat} (hl : ∀ x ∈ l, ¬ p ∣ x) : ¬ p ∣ l.prod := by
  induction l with
  | nil => intro hd; rw [List.prod_nil] at hd; have := Nat.le_of_dvd (by omega) hd; have := h.1; omega
  | cons x l ih =>
    rw [List.prod_cons]
    intro hd
    rcases h.dvd_mul hd with h1 | h1
    · exact hl x (by simp) h1
    · exact ih (fun y hy => hl y (by simp [hy])) h1

/-- What may be divided out. -/
theorem cancel_mod {p a b c : Nat} (hp : Nat.Coprime p c) (h : a * c % p = b * c % p) : a % p = b % p := by
  have key : ∀ {a b : Nat}, b ≤ a → a * c % p = b * c % p → a % p = b % p := by
    intro a b hab h
    have h1 : p ∣ (a - b) * c := by
      rw [Nat.sub_mul]
      exact Nat.dvd_of_mod_eq_zero (Nat.sub_mod_eq_zero_of_mod_eq h)
    have h2 : p ∣ a - b := hp.dvd_of_dvd_mul_right h1
    obtain ⟨k, hk⟩ := h2
    have : a = b + p * k := by omega
    rw [this, Nat.add_mul_mod_self_left]
  rcases Nat.le_total b a with hab | hab
  · exact key hab h
  · exact (key hab h.symm).symm

theorem fermat {p a : Nat} (h : Pr p) (ha : ¬ p ∣ a) : a ^ (p - 1) % p = 1 := by
  have h2 := h.1
  have hL : (List.range' 1 (p - 1)).length = p - 1 := List.length_range'
  have hmem : ∀ x, x ∈ List.range' 1 (p - 1) ↔ 1 ≤ x ∧ x < p := by intro x; rw [List.mem_range'_1]; omega
  have hcop := h.cop ha
  have hperm : ((List.range' 1 (p - 1)).map fun i => a * i % p).Perm (List.range' 1 (p - 1)) := by
    refine perm_of_nodup ?_ ?_ (by simp)
    · rw [List.nodup_iff_pairwise_ne, List.pairwise_map]
      refine List.Pairwise.imp_of_mem ?_ (List.pairwise_lt_range' (s := 1) (n := p - 1))
      intro x y hx hy hxy he
      rw [hmem] at hx hy
      have := cancel_mod hcop (a := x) (b := y) (by rw [Nat.mul_comm x, Nat.mul_comm y]; exact he)
      rw [Nat.mod_eq_of_lt hx.2, Nat.mod_eq_of_lt hy.2] at this
      omega
    · intro y hy
      obtain ⟨x, hx, rfl⟩ := List.mem_map.1 hy
      rw [hmem] at hx ⊢
      have : a * x % p ≠ 0 := fun e => by
        rcases h.dvd_mul (Nat.dvd_of_mod_eq_zero e) with h1 | h1
        · exact ha h1
        · exact not_dvd_of_lt (by omega) hx.2 h1
      have := Nat.mod_lt (a * x) (show 0 < p by omega)
      omega
  have hprod := prod_perm hperm
  have hm := prod_mod_map a p (List.range' 1 (p - 1))
  rw [hprod, hL] at hm
  have hnd : ¬ p ∣ (List.range' 1 (p - 1)).prod := h.not_dvd_prod fun x hx => by rw [hmem] at hx; exact not_dvd_of_lt (by omega) hx.2
  have hc := cancel_mod (h.cop hnd) (a := 1) (b := a ^ (p - 1)) (by rw [Nat.one_mul]; exact hm)
  rw [← hc, Nat.mod_eq_of_lt (by omega)]

end Go.Proofs.Ytldfbadcigdbkaa.M
