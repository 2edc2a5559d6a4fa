/- Texts of the proof, laid together. -/
namespace Go.Proofs.YtgcjdojhfimceaaGreat.M

/-- The power modulo m, on integers that are not negative. -/
def pw (a e m : Int) : Int := ((a.toNat ^ e.toNat % m.toNat : Nat) : Int)

theorem pw_nonneg (a e m : Int) : 0 ≤ pw a e m := Int.natCast_nonneg _
theorem pw_lt (a e m : Int) (h : 1 ≤ m) : pw a e m < m := by
  unfold pw; have := Nat.mod_lt (a.toNat ^ e.toNat) (show 0 < m.toNat by omega); omega

theorem mul_bd (x y m : Int) (hx : 0 ≤ x) (hxm : x < m) (hy : 0 ≤ y) (hym : y < m) (hm : m ≤ 2147483647) : 0 ≤ x * y ∧ x * y ≤ 4611686014132420609 := by
  refine ⟨Int.mul_nonneg hx hy, ?_⟩
  have h1 : x * y ≤ 2147483647 * 2147483647 := Int.mul_le_mul (by omega) (by omega) hy (by omega)
  omega

/-- What a round of the loop keeps: r * s^e modulo m. -/
def keep (r s e m : Int) : Nat := (r.toNat * s.toNat ^ e.toNat) % m.toNat

theorem keep_start (a e m : Int) (hm : 1 ≤ m) : ((keep (1 % m) a e m : Nat) : Int) = pw a e m := by
  unfold keep pw
  congr 1
  have h1 : (1 % m).toNat = 1 % m.toNat := by
    obtain ⟨n, rfl⟩ := Int.eq_ofNat_of_zero_le (show 0 ≤ m by omega)
    rw [Int.toNat_natCast]; exact_mod_cast Int.toNat_natCast (1 % n)
  rw [h1, Nat.mod_mul_mod]; simp

theorem toNat_mulmod (x y m : Int) (hx : 0 ≤ x) (hy : 0 ≤ y) (hm : 0 ≤ m) : (x * y % m).toNat = x.toNat * y.toNat % m.toNat := by
  obtain ⟨a, rfl⟩ := Int.eq_ofNat_of_zero_le hx
  obtain ⟨b, rfl⟩ := Int.eq_ofNat_of_zero_le hy
  obtain ⟨c, rfl⟩ := Int.eq_ofNat_of_zero_le hm
  simp only [Int.toNat_natCast]
  exact_mod_cast Int.toNat_natCast (a * b % c)

theorem mulmod_bd (x y m : Int) (hm : 1 ≤ m) : 0 ≤ x * y % m ∧ x * y % m < m :=
  ⟨Int.emod_nonneg _ (by omega), Int.emod_lt_of_pos _ (by omega)⟩

theorem keep_odd (r s e m : Int) (hr : 0 ≤ r) (hs : 0 ≤ s) (he : 0 < e) (hm : 1 ≤ m) (ho : e % 2 = 1) : keep (r * s % m) (s * s % m) (e / 2) m = keep r s e m := by
  unfold keep
  rw [toNat_mulmod _ _ _ hr hs (by omega), toNat_mulmod _ _ _ hs hs (by omega)]
  have he2 : e.toNat = 2 * (e / 2).toNat + 1 := by omega
  rw [Nat.mod_mul_mod, Nat.mul_mod, ← Nat.pow_mod, ← Nat.mul_mod, he2, Nat.pow_succ, Nat.pow_mul, Nat.pow_two]
  rw [Nat.mul_assoc, Nat.mul_comm s.toNat]

theorem keep_even (r s e m : Int) (hs : 0 ≤ s) (he : 0 < e) (hm : 1 ≤ m) (ho : ¬ e % 2 = 1) : keep r (s * s % m) (e / 2) m = keep r s e m := by
  unfold keep
  rw [toNat_mulmod _ _ _ hs hs (by omega)]
  have he2 : e.toNat = 2 * (e / 2).toNat := by omega
  rw [Nat.mul_mod, ← Nat.pow_mod, ← Nat.mul_mod, he2, Nat.pow_mul, Nat.pow_two]

theorem keep_end (r s m : Int) (hr : 0 ≤ r) (hrm : r < m) : ((keep r s 0 m : Nat) : Int) = r := by
  unfold keep
  simp only [Int.toNat_zero, Nat.pow_zero, Nat.mul_one]
  rw [Nat.mod_eq_of_lt (by omega)]; omega

end Go.Proofs.YtgcjdojhfimceaaGreat.M

namespace Go.Proofs.YtgcjdojhfimceaaGreat.M

def Pr (p : Nat) : Prop := 2 ≤ p ∧ ∀ d, d ∣ p → d = 1 ∨ d = p

theorem Pr.two {p : Nat} (h : Pr p) : 2 ≤ p := h.1

theorem Pr.cop {p a : Nat} (h : Pr p) (ha : ¬ p ∣ a) : Nat.Coprime p a := by
  rcases h.2 (Nat.gcd p a) (Nat.gcd_dvd_left p a) with h1 | h1
  · exact h1
  · exact absurd (h1 ▸ Nat.gcd_dvd_right p a) ha

theorem Pr.dvd_mul {p a b : Nat} (h : Pr p) (hd : p ∣ a * b) : p ∣ a ∨ p ∣ b := by
  by_cases ha : p ∣ a
  · exact .inl ha
  · exact .inr ((h.cop ha).dvd_of_dvd_mul_left hd)

theorem Pr.dvd_pow {p a : Nat} (h : Pr p) : ∀ {n : Nat}, p ∣ a ^ n → p ∣ a
  | 0, hd => by rw [Nat.pow_zero] at hd; have := Nat.le_of_dvd (by omega) hd; have := h.1; omega
  | n + 1, hd => by
    rw [Nat.pow_succ] at hd
    rcases h.dvd_mul hd with h1 | h1
    · exact Pr.dvd_pow h h1
    · exact h1

theorem not_dvd_of_lt {p a : Nat} (h0 : 0 < a) (h : a < p) : ¬ p ∣ a := fun hd => by have := Nat.le_of_dvd h0 hd; omega

/-- The least divisor from 2 on is a prime. -/
theorem least_prime {n d : Nat} (h2 : 2 ≤ d) (hd : d ∣ n) (hmin : ∀ k, 2 ≤ k → k ∣ n → d ≤ k) : Pr d := by
  refine ⟨h2, fun k hk => ?_⟩
  have hk0 : 0 < k := Nat.pos_of_dvd_of_pos hk (by omega)
  by_cases h1 : k = 1
  · exact .inl h1
  · have := hmin k (by omega) (Nat.dvd_trans hk hd)
    have := Nat.le_of_dvd (by omega) hk
    exact .inr (by omega)

theorem exists_least (n : Nat) (h : 2 ≤ n) : ∃ d, 2 ≤ d ∧ d ∣ n ∧ ∀ k, 2 ≤ k → k ∣ n → d ≤ k := by
  suffices H : ∀ m, (∃ d, 2 ≤ d ∧ d ∣ n ∧ d ≤ m) → ∃ d, 2 ≤ d ∧ d ∣ n ∧ ∀ k, 2 ≤ k → k ∣ n → d ≤ k from H n ⟨n, h, Nat.dvd_refl n, Nat.le_refl n⟩
  intro m
  induction m with
  | zero => rintro ⟨d, h1, _, h3⟩; omega
  | succ m ih =>
    rintro ⟨d, h1, h2, h3⟩
    by_cases hm : ∃ d, 2 ≤ d ∧ d ∣ n ∧ d ≤ m
    · exact ih hm
    · refine ⟨d, h1, h2, fun k hk hkn => ?_⟩
      by_cases hkm : k ≤ m
      · exact absurd ⟨k, hk, hkn, hkm⟩ hm
      · omega

theorem exists_prime (n : Nat) (h : 2 ≤ n) : ∃ p, Pr p ∧ p ∣ n := by
  obtain ⟨d, h1, h2, h3⟩ := exists_least n h
  exact ⟨d, least_prime h1 h2 h3, h2⟩

/-! ### Lists -/
theorem perm_of_nodup {l₁ l₂ : List Nat} (h1 : l₁.Nodup) (hs : l₁ ⊆ l₂) (hl : l₂.length ≤ l₁.length) : l₁.Perm l₂ := by
  induction l₁ generalizing l₂ with
  | nil => have : l₂ = [] := List.eq_nil_of_length_eq_zero (by simpa using hl); subst this; exact List.Perm.refl _
  | cons a l ih =>
    have ha : a ∈ l₂ := hs (by simp)
    have hp := List.perm_cons_erase ha
    refine List.Perm.trans (List.Perm.cons a (ih (List.nodup_cons.1 h1).2 ?_ ?_)) hp.symm
    · intro x hx
      have hxa : x ≠ a := fun e => (List.nodup_cons.1 h1).1 (e ▸ hx)
      exact (List.mem_erase_of_ne hxa).2 (hs (by simp [hx]))
    · rw [List.length_erase_of_mem ha]; simp at hl; omega

theorem prod_perm {l₁ l₂ : List Nat} (h : l₁.Perm l₂) : l₁.prod = l₂.prod := by
  induction h with
  | nil => rfl
  | cons x _ ih => simp [ih]
  | swap x y l => simp [Nat.mul_left_comm]
  | trans _ _ h1 h2 => exact h1.trans h2

theorem prod_mod_map (a p : Nat) (l : List Nat) : (l.map fun i => a * i % p).prod % p = a ^ l.length * l.prod % p := by
  induction l with
  | nil => simp
  | cons x l ih =>
    simp only [List.map_cons, List.prod_cons, List.length_cons]
    rw [Nat.mul_mod, ih, Nat.mod_mod, ← Nat.mul_mod]
    congr 1
    rw [Nat.pow_succ]; ac_rfl

theorem Pr.not_dvd_prod {p : Nat} (h : Pr p) {l : List Nat} (hl : ∀ x ∈ l, ¬ p ∣ x) : ¬ p ∣ l.prod := by
  induction l with
  | nil => intro hd; rw [List.prod_nil] at hd; have := Nat.le_of_dvd (by omega) hd; have := h.1; omega
  | cons x l ih =>
    rw [List.prod_cons]
    intro hd
    rcases h.dvd_mul hd with h1 | h1
    · exact hl x (by simp) h1
    · exact ih (fun y hy => hl y (by simp [hy])) h1

/-- What may be divided out. -/
theorem cancel_mod {p a b c : Nat} (hp : Nat.Coprime p c) (h : a * c % p = b * c % p) : a % p = b % p := by
  have key : ∀ {a b : Nat}, b ≤ a → a * c % p = b * c % p → a % p = b % p := by
    intro a b hab h
    have h1 : p ∣ (a - b) * c := by
      rw [Nat.sub_mul]
      exact Nat.dvd_of_mod_eq_zero (Nat.sub_mod_eq_zero_of_mod_eq h)
    have h2 : p ∣ a - b := hp.dvd_of_dvd_mul_right h1
    obtain ⟨k, hk⟩ := h2
    have : a = b + p * k := by omega
    rw [this, Nat.add_mul_mod_self_left]
  rcases Nat.le_total b a with hab | hab
  · exact key hab h
  · exact (key hab h.symm).symm

theorem fermat {p a : Nat} (h : Pr p) (ha : ¬ p ∣ a) : a ^ (p - 1) % p = 1 := by
  have h2 := h.1
  have hL : (List.range' 1 (p - 1)).length = p - 1 := List.length_range'
  have hmem : ∀ x, x ∈ List.range' 1 (p - 1) ↔ 1 ≤ x ∧ x < p := by intro x; rw [List.mem_range'_1]; omega
  have hcop := h.cop ha
  have hperm : ((List.range' 1 (p - 1)).map fun i => a * i % p).Perm (List.range' 1 (p - 1)) := by
    refine perm_of_nodup ?_ ?_ (by simp)
    · rw [List.nodup_iff_pairwise_ne, List.pairwise_map]
      refine List.Pairwise.imp_of_mem ?_ (List.pairwise_lt_range' (s := 1) (n := p - 1))
      intro x y hx hy hxy he
      rw [hmem] at hx hy
      have := cancel_mod hcop (a := x) (b := y) (by rw [Nat.mul_comm x, Nat.mul_comm y]; exact he)
      rw [Nat.mod_eq_of_lt hx.2, Nat.mod_eq_of_lt hy.2] at this
      omega
    · intro y hy
      obtain ⟨x, hx, rfl⟩ := List.mem_map.1 hy
      rw [hmem] at hx ⊢
      have : a * x % p ≠ 0 := fun e => by
        rcases h.dvd_mul (Nat.dvd_of_mod_eq_zero e) with h1 | h1
        · exact ha h1
        · exact not_dvd_of_lt (by omega) hx.2 h1
      have := Nat.mod_lt (a * x) (show 0 < p by omega)
      omega
  have hprod := prod_perm hperm
  have hm := prod_mod_map a p (List.range' 1 (p - 1))
  rw [hprod, hL] at hm
  have hnd : ¬ p ∣ (List.range' 1 (p - 1)).prod := h.not_dvd_prod fun x hx => by rw [hmem] at hx; exact not_dvd_of_lt (by omega) hx.2
  have hc := cancel_mod (h.cop hnd) (a := 1) (b := a ^ (p - 1)) (by rw [Nat.one_mul]; exact hm)
  rw [← hc, Nat.mod_eq_of_lt (by omega)]

end Go.Proofs.YtgcjdojhfimceaaGreat.M

namespace Go.Proofs.YtgcjdojhfimceaaGreat.M

theorem pow_one_mul {a n m : Nat} (h : a ^ n % m = 1 % m) (k : Nat) : a ^ (n * k) % m = 1 % m := by
  rw [Nat.pow_mul, Nat.pow_mod, h, ← Nat.pow_mod, Nat.one_pow]

theorem pow_one_add {a n m : Nat} (h : a ^ n % m = 1 % m) (k : Nat) : a ^ (n + k) % m = a ^ k % m := by
  rw [Nat.pow_add, Nat.mul_mod, h, ← Nat.mul_mod, Nat.one_mul]

structure IsOrd (a o m : Nat) : Prop where
  pos : 1 ≤ o
  one : a ^ o % m = 1 % m
  least : ∀ k, 1 ≤ k → k < o → a ^ k % m ≠ 1 % m

theorem IsOrd.dvd {a o m n : Nat} (h : IsOrd a o m) (hn : a ^ n % m = 1 % m) : o ∣ n := by
  have hdiv := Nat.div_add_mod n o
  have hlt := Nat.mod_lt n h.pos
  by_cases h0 : n % o = 0
  · exact Nat.dvd_of_mod_eq_zero h0
  · have h1 : a ^ (n % o) % m = 1 % m := by
      rw [← hn, ← pow_one_add (pow_one_mul h.one (n / o)) (n % o), hdiv]
    exact absurd h1 (h.least _ (by omega) hlt)

theorem exists_ord {a n m : Nat} (h1 : 1 ≤ n) (h : a ^ n % m = 1 % m) : ∃ o, IsOrd a o m := by
  suffices H : ∀ b n, n ≤ b → 1 ≤ n → a ^ n % m = 1 % m → ∃ o, IsOrd a o m from H n n (Nat.le_refl n) h1 h
  intro b
  induction b with
  | zero => intro n h0 h1; omega
  | succ b ih =>
    intro n hb h1 h
    by_cases hk : ∃ k, 1 ≤ k ∧ k < n ∧ a ^ k % m = 1 % m
    · obtain ⟨k, hk1, hk2, hk3⟩ := hk
      exact ih k (by omega) hk1 hk3
    · exact ⟨n, h1, h, fun k hk1 hk2 hk3 => hk ⟨k, hk1, hk2, hk3⟩⟩

theorem IsOrd.unique {a o o' m : Nat} (h : IsOrd a o m) (h' : IsOrd a o' m) : o = o' :=
  Nat.dvd_antisymm (h.dvd h'.one) (h'.dvd h.one)

/-- An exponent that works, while none of it divided by one of its primes does, is the order. -/
theorem isOrd_of {a e m : Nat} (h1 : 1 ≤ e) (h : a ^ e % m = 1 % m) (hq : ∀ q, Pr q → q ∣ e → a ^ (e / q) % m ≠ 1 % m) : IsOrd a e m := by
  obtain ⟨o, ho⟩ := exists_ord h1 h
  obtain ⟨k, hk⟩ := ho.dvd h
  by_cases h2 : k = 1
  · subst h2; rw [Nat.mul_one] at hk; exact hk ▸ ho
  · have hk0 : k ≠ 0 := fun e0 => by subst e0; omega
    obtain ⟨q, hqp, c, hc⟩ := exists_prime k (by omega)
    have hq2 := hqp.1
    exfalso
    refine hq q hqp ⟨o * c, by rw [hk, hc]; ac_rfl⟩ ?_
    have : e / q = o * c := by
      rw [hk, hc, show o * (q * c) = q * (o * c) by ac_rfl, Nat.mul_div_cancel_left _ (by omega)]
    rw [this]
    exact pow_one_mul ho.one c

theorem isOrd_div {a e m q : Nat} (h : IsOrd a e m) (hq : 2 ≤ q) (hd : q ∣ e) : a ^ (e / q) % m ≠ 1 % m := by
  have h1 := h.pos
  refine h.least _ (Nat.div_pos (Nat.le_of_dvd h1 hd) (by omega)) (Nat.div_lt_self h1 (by omega))

/-- Powers below the order are different. -/
theorem IsOrd.inj {a o m : Nat} (h : IsOrd a o m) : ∀ {i j : Nat}, i < j → j < o → a ^ i % m ≠ a ^ j % m := by
  intro i j hij hj he
  have h1 : a ^ (o - j + i) % m = 1 % m := by
    rw [Nat.pow_add, Nat.mul_mod, he, ← Nat.mul_mod, ← Nat.pow_add, show o - j + j = o by omega]
    exact h.one
  exact h.least _ (by omega) (by omega) h1

theorem coprime_of_pow {a n m : Nat} (hn : 1 ≤ n) (h : a ^ n % m = 1 % m) : Nat.Coprime a m := by
  have hg1 : Nat.gcd a m ∣ a ^ n := Nat.dvd_trans (Nat.gcd_dvd_left a m) ⟨a ^ (n - 1), by rw [← Nat.pow_succ']; congr 1; omega⟩
  have hg2 : Nat.gcd a m ∣ m := Nat.gcd_dvd_right a m
  have h3 : Nat.gcd a m ∣ a ^ n % m := (Nat.dvd_mod_iff hg2).2 hg1
  rw [h] at h3
  have h4 : Nat.gcd a m ∣ 1 := (Nat.dvd_mod_iff hg2).1 h3
  exact Nat.dvd_one.1 h4

/-- All remainders that are not 0 are powers of a witness. -/
theorem powers_all {w P : Nat} (hP : 2 ≤ P) (h : IsOrd w (P - 1) P) {x : Nat} (h1 : 1 ≤ x) (hx : x < P) : ∃ i, i < P - 1 ∧ w ^ i % P = x := by
  have hcop := coprime_of_pow h.pos h.one
  have hmem : ∀ x, x ∈ List.range' 1 (P - 1) ↔ 1 ≤ x ∧ x < P := by intro x; rw [List.mem_range'_1]; omega
  have hperm : ((List.range (P - 1)).map fun i => w ^ i % P).Perm (List.range' 1 (P - 1)) := by
    refine perm_of_nodup ?_ ?_ (by simp)
    · rw [List.nodup_iff_pairwise_ne, List.pairwise_map]
      refine List.Pairwise.imp_of_mem ?_ (List.pairwise_lt_range (n := P - 1))
      intro i j hi hj hij
      exact h.inj hij (List.mem_range.1 hj)
    · intro y hy
      obtain ⟨i, hi, rfl⟩ := List.mem_map.1 hy
      rw [hmem]
      have hlt := Nat.mod_lt (w ^ i) (show 0 < P by omega)
      refine ⟨?_, hlt⟩
      apply Nat.pos_of_ne_zero
      intro e0
      have hc : Nat.Coprime (w ^ i) P := by simpa using Nat.Coprime.pow_left i hcop
      have : P ∣ 1 := by
        have hd : P ∣ w ^ i := Nat.dvd_of_mod_eq_zero e0
        have := Nat.dvd_gcd hd (Nat.dvd_refl P)
        rwa [hc] at this
      have := Nat.le_of_dvd (by omega) this
      omega
  have := hperm.mem_iff.2 ((hmem x).2 ⟨h1, hx⟩)
  obtain ⟨i, hi, he⟩ := List.mem_map.1 this
  exact ⟨i, List.mem_range.1 hi, he⟩

theorem prime_of_ord {w P : Nat} (hP : 2 ≤ P) (h : IsOrd w (P - 1) P) : Pr P := by
  refine ⟨hP, fun d hd => ?_⟩
  have hd0 : 0 < d := Nat.pos_of_dvd_of_pos hd (by omega)
  have hdle := Nat.le_of_dvd (by omega) hd
  by_cases he : d = P
  · exact .inr he
  · left
    obtain ⟨i, hi, hw⟩ := powers_all hP h hd0 (by omega)
    have hcop := coprime_of_pow h.pos h.one
    have hc : Nat.Coprime (w ^ i) P := by simpa using Nat.Coprime.pow_left i hcop
    have h1 : d ∣ w ^ i := by
      rw [← Nat.div_add_mod (w ^ i) P, hw]
      exact Nat.dvd_add (Nat.dvd_trans hd (Nat.dvd_mul_right _ _)) (Nat.dvd_refl d)
    have := Nat.dvd_gcd h1 hd
    rw [hc] at this
    exact Nat.dvd_one.1 this

/-- A witness proves that the number is a prime. -/
theorem pratt {w P : Nat} (hP : 2 ≤ P) (h : w ^ (P - 1) % P = 1) (hq : ∀ q, Pr q → q ∣ P - 1 → w ^ ((P - 1) / q) % P ≠ 1) : Pr P := by
  have h1 : 1 % P = 1 := Nat.mod_eq_of_lt (by omega)
  exact prime_of_ord hP (isOrd_of (by omega) (by rw [h1]; exact h) (by rw [h1]; exact hq))

/-! ### Roots of polynomials, the least coefficient first -/
def ev : List Int → Int → Int
  | [], _ => 0
  | c :: f, x => c + x * ev f x

def quo : List Int → Int → List Int
  | [], _ => []
  | [_], _ => []
  | _ :: c :: f, r => ev (c :: f) r :: quo (c :: f) r

theorem ev_quo (x r : Int) : ∀ f : List Int, ev f x - ev f r = (x - r) * ev (quo f r) x
  | [] => by simp [ev, quo]
  | [c] => by simp [ev, quo]
  | c :: d :: f => by
    have ih := ev_quo x r (d :: f)
    have e1 : ev (c :: d :: f) x = c + x * ev (d :: f) x := rfl
    have e2 : ev (c :: d :: f) r = c + r * ev (d :: f) r := rfl
    have e3 : ev (quo (c :: d :: f) r) x = ev (d :: f) r + x * ev (quo (d :: f) r) x := rfl
    rw [e1, e2, e3]
    generalize ev (d :: f) x = A at *
    generalize ev (d :: f) r = B at *
    generalize ev (quo (d :: f) r) x = C at *
    have : x * (A - B) = x * ((x - r) * C) := by rw [ih]
    grind

theorem quo_length (r : Int) : ∀ f : List Int, (quo f r).length = f.length - 1
  | [] => rfl
  | [_] => rfl
  | c :: d :: f => by
    have := quo_length r (d :: f)
    simp [quo, this]

theorem quo_last (r : Int) : ∀ f : List Int, 2 ≤ f.length → (quo f r).getLast? = f.getLast?
  | [], h => by simp at h
  | [_], h => by simp at h
  | [c, d], _ => by simp [quo, ev]
  | c :: d :: e :: f, _ => by
    have := quo_last r (d :: e :: f) (by simp)
    rw [show quo (c :: d :: e :: f) r = ev (d :: e :: f) r :: quo (d :: e :: f) r from rfl]
    have hne : quo (d :: e :: f) r ≠ [] := by simp [quo]
    rw [List.getLast?_cons_of_ne_nil hne, this]
    simp [List.getLast?_cons_cons]

theorem Pr.int_dvd_mul {p : Nat} (h : Pr p) {a b : Int} (hd : (p : Int) ∣ a * b) : (p : Int) ∣ a ∨ (p : Int) ∣ b := by
  have h1 : p ∣ a.natAbs * b.natAbs := by
    rw [← Int.natAbs_mul]; exact Int.ofNat_dvd_left.1 hd
  rcases h.dvd_mul h1 with h2 | h2
  · exact .inl (Int.ofNat_dvd_left.2 h2)
  · exact .inr (Int.ofNat_dvd_left.2 h2)

theorem roots_le {p : Nat} (h : Pr p) : ∀ (n : Nat) (f : List Int) (R : List Nat), f.length = n + 1 → (∀ c, f.getLast? = some c → ¬ (p : Int) ∣ c) →
    R.Nodup → (∀ x ∈ R, x < p ∧ (p : Int) ∣ ev f x) → R.length ≤ n := by
  intro n
  induction n with
  | zero =>
    intro f R hf hc hR hx
    match f, hf with
    | [c], _ =>
      match R with
      | [] => simp
      | x :: R =>
        have := (hx x (by simp)).2
        simp [ev] at this
        exact absurd this (hc c rfl)
  | succ n ih =>
    intro f R hf hc hR hx
    match R, hR with
    | [], _ => simp
    | r :: R, hR =>
      have hr := hx r (by simp)
      have hn := List.nodup_cons.1 hR
      have := ih (quo f r) R (by rw [quo_length, hf]; omega) (by rw [quo_last _ _ (by omega)]; exact hc) hn.2 (fun x hxR => by
        have hxx := hx x (by simp [hxR])
        refine ⟨hxx.1, ?_⟩
        have hd : (p : Int) ∣ (x - r) * ev (quo f r) x := by rw [← ev_quo]; exact Int.dvd_sub hxx.2 hr.2
        rcases h.int_dvd_mul hd with h1 | h1
        · exfalso
          have hne : x ≠ r := fun e => hn.1 (e ▸ hxR)
          obtain ⟨k, hk⟩ := h1
          have hxp := hxx.1
          have hrp := hr.1
          rcases (show k < 0 ∨ 0 ≤ k by omega) with h0 | h0
          · have : (p : Int) * k ≤ p * (-1) := Int.mul_le_mul_of_nonneg_left (by omega) (by omega)
            omega
          · rcases (show 0 < k ∨ k ≤ 0 by omega) with h2 | h2
            · have : (p : Int) * 1 ≤ p * k := Int.mul_le_mul_of_nonneg_left (by omega) (by omega)
              omega
            · have : k = 0 := by omega
              subst this; simp at hk; omega
        · exact h1)
      simp; omega

def powPoly (d : Nat) : List Int := -1 :: (List.replicate (d - 1) 0 ++ [1])

theorem ev_zeros (x : Int) (f : List Int) : ∀ k, ev (List.replicate k 0 ++ f) x = x ^ k * ev f x
  | 0 => by simp
  | k + 1 => by
    rw [List.replicate_succ, List.cons_append]
    show 0 + x * ev (List.replicate k 0 ++ f) x = _
    rw [ev_zeros x f k, Int.pow_succ]
    grind

theorem ev_powPoly (d : Nat) (hd : 1 ≤ d) (x : Int) : ev (powPoly d) x = x ^ d - 1 := by
  show -1 + x * ev (List.replicate (d - 1) 0 ++ [1]) x = _
  rw [ev_zeros]
  have : ev [1] x = 1 := by simp [ev]
  rw [this]
  obtain ⟨k, rfl⟩ : ∃ k, d = k + 1 := ⟨d - 1, by omega⟩
  rw [Nat.add_sub_cancel, Int.pow_succ]
  grind

/-- At most d numbers below a prime have 1 as their power with the exponent d. -/
theorem roots_of_one {p d : Nat} (h : Pr p) (hd : 1 ≤ d) (R : List Nat) (hR : R.Nodup) (hx : ∀ x ∈ R, x < p ∧ x ^ d % p = 1) : R.length ≤ d := by
  have h2 := h.1
  refine roots_le h d (powPoly d) R (by simp [powPoly]; omega) ?_ hR ?_
  · intro c hc
    have : (powPoly d).getLast? = some 1 := by
      show (-1 :: (List.replicate (d - 1) 0 ++ [(1 : Int)])).getLast? = _
      rw [← List.cons_append, List.getLast?_concat]
    rw [this] at hc
    simp at hc
    subst hc
    intro hdv
    have := Int.le_of_dvd (by omega) hdv
    omega
  · intro x hxR
    obtain ⟨h3, h4⟩ := hx x hxR
    refine ⟨h3, ?_⟩
    rw [ev_powPoly d hd]
    have e : ((x ^ d : Nat) : Int) = (x : Int) ^ d := by simp
    rw [← e]
    have h5 := Nat.div_add_mod (x ^ d) p
    rw [h4] at h5
    have h6 : ((p * (x ^ d / p) + 1 : Nat) : Int) = ((x ^ d : Nat) : Int) := by rw [h5]
    rw [Int.natCast_add, Int.natCast_mul] at h6
    exact ⟨((x ^ d / p : Nat) : Int), by rw [← h6]; omega⟩

/-- Some remainder has a power other than 1, where the exponent is less than p - 1. -/
theorem exists_other {p d : Nat} (h : Pr p) (hd : 1 ≤ d) (hlt : d < p - 1) : ∃ x, 1 ≤ x ∧ x < p ∧ x ^ d % p ≠ 1 := by
  refine Classical.byContradiction fun hno => ?_
  have hall : ∀ x, 1 ≤ x → x < p → x ^ d % p = 1 := fun x h1 h2 => Classical.byContradiction fun h3 => hno ⟨x, h1, h2, h3⟩
  have := roots_of_one h hd (List.range' 1 (p - 1)) (List.nodup_range' ..) (fun x hx => by
    rw [List.mem_range'_1] at hx
    exact ⟨by omega, hall x (by omega) (by omega)⟩)
  simp at this
  omega

end Go.Proofs.YtgcjdojhfimceaaGreat.M

namespace Go.Proofs.YtgcjdojhfimceaaGreat.M

def prodP : List (Nat × Nat) → Nat
  | [] => 1
  | x :: l => x.1 ^ x.2 * prodP l

/-- Primes in ascending order, all greater than lo, with exponents from 1 on. -/
def FacFrom : Nat → List (Nat × Nat) → Prop
  | _, [] => True
  | lo, x :: l => lo < x.1 ∧ Pr x.1 ∧ 1 ≤ x.2 ∧ FacFrom x.1 l

def IsFac (n : Nat) (l : List (Nat × Nat)) : Prop := FacFrom 1 l ∧ prodP l = n

theorem prodP_append (l l' : List (Nat × Nat)) : prodP (l ++ l') = prodP l * prodP l' := by
  induction l with
  | nil => simp [prodP]
  | cons x l ih => simp [prodP, ih, Nat.mul_assoc]

theorem FacFrom.pos {lo : Nat} {l : List (Nat × Nat)} (h : FacFrom lo l) : 1 ≤ prodP l := by
  induction l generalizing lo with
  | nil => simp [prodP]
  | cons x l ih =>
    have h2 := h.2.1.1
    exact Nat.mul_pos (Nat.pow_pos (by omega)) (ih h.2.2.2)

theorem FacFrom.mono {lo lo' : Nat} {l : List (Nat × Nat)} (h : FacFrom lo l) (hl : lo' ≤ lo) : FacFrom lo' l := by
  cases l with
  | nil => trivial
  | cons x l => exact ⟨by have := h.1; omega, h.2⟩

theorem FacFrom.gt {lo : Nat} {l : List (Nat × Nat)} (h : FacFrom lo l) : ∀ x ∈ l, lo < x.1 ∧ Pr x.1 ∧ 1 ≤ x.2 := by
  induction l generalizing lo with
  | nil => intro x hx; cases hx
  | cons y l ih =>
    intro x hx
    rcases List.mem_cons.1 hx with rfl | hx
    · exact ⟨h.1, h.2.1, h.2.2.1⟩
    · have := ih h.2.2.2 x hx
      exact ⟨by have := h.1; omega, this.2⟩

theorem FacFrom.drop {lo : Nat} {l : List (Nat × Nat)} (h : FacFrom lo l) (k : Nat) : FacFrom lo (l.drop k) := by
  induction k generalizing lo l with
  | zero => exact h
  | succ k ih =>
    cases l with
    | nil => trivial
    | cons x l => exact (ih (h.2.2.2)).mono (by have := h.1; omega)

theorem FacFrom.mem_of_dvd {lo q : Nat} {l : List (Nat × Nat)} (h : FacFrom lo l) (hq : Pr q) (hd : q ∣ prodP l) : ∃ x ∈ l, x.1 = q := by
  induction l generalizing lo with
  | nil => rw [prodP] at hd; have := Nat.le_of_dvd (by omega) hd; have := hq.1; omega
  | cons x l ih =>
    rcases hq.dvd_mul hd with h1 | h1
    · have h2 := hq.dvd_pow h1
      rcases h.2.1.2 q h2 with h3 | h3
      · have := hq.1; omega
      · exact ⟨x, by simp, h3.symm⟩
    · obtain ⟨y, hy, he⟩ := ih h.2.2.2 h1
      exact ⟨y, by simp [hy], he⟩

theorem dvd_prodP {l : List (Nat × Nat)} {x : Nat × Nat} (hx : x ∈ l) (he : 1 ≤ x.2) : x.1 ∣ prodP l := by
  induction l with
  | nil => cases hx
  | cons y l ih =>
    rcases List.mem_cons.1 hx with rfl | hx
    · exact Nat.dvd_trans (Nat.dvd_trans (by rw [Nat.pow_one]; exact Nat.dvd_refl _) (Nat.pow_dvd_pow x.1 he)) (Nat.dvd_mul_right _ _)
    · exact Nat.dvd_trans (ih hx) (Nat.dvd_mul_left _ _)

theorem FacFrom.not_dvd {p : Nat} {l : List (Nat × Nat)} (hp : Pr p) (h : FacFrom p l) : ¬ p ∣ prodP l := by
  intro hd
  obtain ⟨x, hx, he⟩ := h.mem_of_dvd hp hd
  have := (h.gt x hx).1
  omega

/-- Every divisor from 2 on is greater than lo. -/
theorem FacFrom.lt_div {lo k : Nat} {l : List (Nat × Nat)} (h : FacFrom lo l) (hk : 2 ≤ k) (hd : k ∣ prodP l) : lo < k := by
  obtain ⟨q, hq, hqk⟩ := exists_prime k hk
  obtain ⟨x, hx, he⟩ := h.mem_of_dvd hq (Nat.dvd_trans hqk hd)
  have := (h.gt x hx).1
  have := Nat.le_of_dvd (by omega) hqk
  omega

/-- The first prime is the least divisor from 2 on. -/
theorem FacFrom.head_le {lo k : Nat} {x : Nat × Nat} {l : List (Nat × Nat)} (h : FacFrom lo (x :: l)) (hk : 2 ≤ k) (hd : k ∣ prodP (x :: l)) : x.1 ≤ k := by
  have h2 := h.2.1.1
  have h' : FacFrom (x.1 - 1) (x :: l) := ⟨by omega, h.2⟩
  have := h'.lt_div hk hd
  omega

theorem strip (d n : Nat) (hd : 2 ≤ d) (hn : 1 ≤ n) : ∃ e r, n = d ^ e * r ∧ ¬ d ∣ r ∧ 1 ≤ r := by
  induction n using Nat.strongRecOn with
  | ind n ih =>
    by_cases h : d ∣ n
    · obtain ⟨c, hc⟩ := h
      have hc0 : 1 ≤ c := by apply Nat.pos_of_ne_zero; intro e; subst e; omega
      have hlt : c < n := by rw [hc]; have := Nat.mul_le_mul_right c hd; omega
      obtain ⟨e, r, h1, h2, h3⟩ := ih c hlt hc0
      exact ⟨e + 1, r, by rw [hc, h1, Nat.pow_succ]; ac_rfl, h2, h3⟩
    · exact ⟨0, n, by simp, h, hn⟩

theorem strip_unique {d e e' r r' : Nat} (hd : 2 ≤ d) (h : d ^ e * r = d ^ e' * r') (h1 : ¬ d ∣ r) (h2 : ¬ d ∣ r') : e = e' ∧ r = r' := by
  induction e generalizing e' with
  | zero =>
    cases e' with
    | zero => simpa using h
    | succ e' => exfalso; apply h1; simp at h; rw [h, Nat.pow_succ]; exact ⟨d ^ e' * r', by ac_rfl⟩
  | succ e ih =>
    cases e' with
    | zero => exfalso; apply h2; simp at h; rw [← h, Nat.pow_succ]; exact ⟨d ^ e * r, by ac_rfl⟩
    | succ e' =>
      have : d ^ e * r = d ^ e' * r' := by
        rw [Nat.pow_succ, Nat.pow_succ] at h
        apply Nat.eq_of_mul_eq_mul_left (show 0 < d by omega)
        calc d * (d ^ e * r) = d ^ e * d * r := by ac_rfl
          _ = d ^ e' * d * r' := h
          _ = d * (d ^ e' * r') := by ac_rfl
      have := ih this
      exact ⟨by omega, this.2⟩

theorem exists_facFrom (n : Nat) : ∀ lo, 1 ≤ n → (∀ k, 2 ≤ k → k ∣ n → lo < k) → ∃ l, FacFrom lo l ∧ prodP l = n := by
  induction n using Nat.strongRecOn with
  | ind n ih =>
    intro lo hn hlo
    by_cases h1 : n = 1
    · exact ⟨[], trivial, by simp [prodP, h1]⟩
    · obtain ⟨d, hd2, hdn, hmin⟩ := exists_least n (by omega)
      have hp := least_prime hd2 hdn hmin
      obtain ⟨e, r, hnr, hdr, hr⟩ := strip d n hd2 hn
      have he : 1 ≤ e := by
        apply Nat.pos_of_ne_zero; intro e0; subst e0
        simp at hnr; exact hdr (hnr ▸ hdn)
      have hlt : r < n := by
        have : 2 ≤ d ^ e := by
          have := Nat.pow_le_pow_right (show 0 < d by omega) he
          simp at this; omega
        have := Nat.mul_le_mul_right r this
        omega
      obtain ⟨l, hl, hpl⟩ := ih r hlt d hr (fun k hk hkr => by
        have hkn : k ∣ n := by rw [hnr]; exact Nat.dvd_trans hkr (Nat.dvd_mul_left _ _)
        have := hmin k hk hkn
        have : k ≠ d := fun e => hdr (e ▸ hkr)
        omega)
      exact ⟨(d, e) :: l, ⟨hlo d hd2 hdn, hp, he, hl⟩, by simp [prodP, hpl, hnr]⟩

theorem exists_fac (n : Nat) (hn : 1 ≤ n) : ∃ l, IsFac n l := by
  obtain ⟨l, h1, h2⟩ := exists_facFrom n 1 hn (fun k hk _ => by omega)
  exact ⟨l, h1, h2⟩

theorem fac_unique' : ∀ (l l' : List (Nat × Nat)) (lo lo' : Nat), FacFrom lo l → FacFrom lo' l' → prodP l = prodP l' → l = l'
  | [], [], _, _, _, _, _ => rfl
  | [], x :: l', _, _, _, h', he => by
    exfalso
    have h2 := h'.2.1.1
    have hd : x.1 ∣ prodP (x :: l') := dvd_prodP (by simp) h'.2.2.1
    rw [← he] at hd
    have := Nat.le_of_dvd (by simp [prodP]) hd
    simp [prodP] at hd
    omega
  | x :: l, [], _, _, h, _, he => by
    exfalso
    have h2 := h.2.1.1
    have hd : x.1 ∣ prodP (x :: l) := dvd_prodP (by simp) h.2.2.1
    rw [he] at hd
    simp [prodP] at hd
    omega
  | x :: l, y :: l', lo, lo', h, h', he => by
    have hx : x.1 ∣ prodP (y :: l') := he ▸ dvd_prodP (by simp) h.2.2.1
    have hy : y.1 ∣ prodP (x :: l) := he ▸ dvd_prodP (by simp) h'.2.2.1
    have h1 := h'.head_le h.2.1.1 hx
    have h2 := h.head_le h'.2.1.1 hy
    have h3 : x.1 = y.1 := by omega
    have hu := strip_unique (d := x.1) (e := x.2) (e' := y.2) (r := prodP l) (r' := prodP l') h.2.1.1 (by rw [show x.1 ^ y.2 = y.1 ^ y.2 by rw [h3]]; exact he) (h.2.2.2.not_dvd h.2.1) (by rw [h3]; exact h'.2.2.2.not_dvd h'.2.1)
    have := fac_unique' l l' _ _ h.2.2.2 h'.2.2.2 hu.2
    rw [this, show x = y from Prod.ext h3 hu.1]

theorem IsFac.unique {n : Nat} {l l' : List (Nat × Nat)} (h : IsFac n l) (h' : IsFac n l') : l = l' :=
  fac_unique' l l' 1 1 h.1 h'.1 (h.2.trans h'.2.symm)

/-! ### Every prime has a generator -/
theorem mod_of_one_lt {p : Nat} (h : 2 ≤ p) : 1 % p = 1 := Nat.mod_eq_of_lt (by omega)

theorem pow_zmod (x a b p : Nat) : (x ^ a % p) ^ b % p = x ^ (a * b) % p := by rw [← Nat.pow_mod, Nat.pow_mul]

theorem pow_zmod' (a p : Nat) {n : Nat} : (a * a % p) ^ n % p = (a ^ 2) ^ n % p := by rw [← Nat.pow_mod, Nat.pow_two]

theorem prime_part {p q : Nat} (hp : Pr p) (hq : Pr q) (hqd : q ∣ p - 1) :
    ∃ y, y ^ (p - 1) % p = 1 ∧ y ^ ((p - 1) / q) % p ≠ 1 ∧ ∀ q', Pr q' → q' ∣ p - 1 → q' ≠ q → y ^ ((p - 1) / q') % p = 1 := by
  have hp2 := hp.1
  have hq2 := hq.1
  have hpos : 0 < p - 1 := by omega
  have h1p := mod_of_one_lt hp2
  have hdq : 1 ≤ (p - 1) / q := Nat.div_pos (Nat.le_of_dvd hpos hqd) (by omega)
  obtain ⟨x, hx1, hx2, hx3⟩ := exists_other hp hdq (Nat.div_lt_self hpos (by omega))
  have hf := fermat hp (not_dvd_of_lt hx1 hx2)
  obtain ⟨k, u, hku, hqu, hu⟩ := strip q (p - 1) hq2 (by omega)
  refine ⟨x ^ u, ?_, ?_, ?_⟩
  · rw [← Nat.pow_mul, Nat.mul_comm, pow_one_mul (by rw [h1p]; exact hf), h1p]
  · intro h
    rw [← Nat.pow_mul, Nat.mul_comm, Nat.pow_mul] at h
    have hz : (x ^ ((p - 1) / q)) ^ q % p = 1 := by
      rw [← Nat.pow_mul, Nat.div_mul_cancel hqd]; exact hf
    obtain ⟨o, ho⟩ := exists_ord hu (by rw [h1p]; exact h)
    have h1 := ho.dvd (n := u) (by rw [h1p]; exact h)
    have h2 := ho.dvd (n := q) (by rw [h1p]; exact hz)
    have h3 := Nat.dvd_gcd h2 h1
    rw [hq.cop hqu] at h3
    have h4 := Nat.dvd_one.1 h3
    subst h4
    have := ho.one
    rw [Nat.pow_one, h1p] at this
    exact hx3 this
  · intro q' hq' hd' hne
    have hq2' := hq'.1
    have h1 : q ^ k ∣ (p - 1) / q' := by
      have hc : Nat.Coprime (q ^ k) q' := by
        have : Nat.Coprime q q' := hq.cop fun hd => by
          rcases hq'.2 q hd with h | h <;> omega
        simpa using Nat.Coprime.pow_left k this
      refine hc.dvd_of_dvd_mul_left (m := q') (n := (p - 1) / q') ?_
      rw [Nat.mul_div_cancel' hd', hku]
      exact Nat.dvd_mul_right _ _
    obtain ⟨c, hc⟩ := h1
    rw [hc, ← Nat.pow_mul, show u * (q ^ k * c) = (q ^ k * u) * c by ac_rfl, ← hku]
    have := pow_one_mul (n := p - 1) (a := x) (m := p) (by rw [h1p]; exact hf) c
    rw [this, h1p]

theorem gen_parts {p : Nat} (hp : Pr p) : ∀ qs : List Nat, qs.Nodup → (∀ q ∈ qs, Pr q ∧ q ∣ p - 1) →
    ∃ g, g ^ (p - 1) % p = 1 ∧ (∀ q ∈ qs, g ^ ((p - 1) / q) % p ≠ 1) ∧ ∀ q, Pr q → q ∣ p - 1 → q ∉ qs → g ^ ((p - 1) / q) % p = 1
  | [], _, _ => ⟨1, by rw [Nat.one_pow]; exact mod_of_one_lt hp.1, by simp, fun q _ _ _ => by rw [Nat.one_pow]; exact mod_of_one_lt hp.1⟩
  | q :: qs, hn, hq => by
    have h1p := mod_of_one_lt hp.1
    obtain ⟨g, hg0, hg1, hg2⟩ := gen_parts hp qs (List.nodup_cons.1 hn).2 (fun x hx => hq x (by simp [hx]))
    obtain ⟨hqp, hqd⟩ := hq q (by simp)
    obtain ⟨y, hy0, hy1, hy2⟩ := prime_part hp hqp hqd
    have mulmod : ∀ n, (y * g) ^ n % p = (y ^ n % p) * (g ^ n % p) % p := fun n => by rw [Nat.mul_pow, Nat.mul_mod]
    refine ⟨y * g, by rw [mulmod, hy0, hg0, Nat.one_mul, h1p], ?_, ?_⟩
    · intro x hx
      rw [mulmod]
      rcases List.mem_cons.1 hx with rfl | hx
      · rw [hg2 x hqp hqd (List.nodup_cons.1 hn).1, Nat.mul_one, Nat.mod_mod]
        exact hy1
      · obtain ⟨hxp, hxd⟩ := hq x (by simp [hx])
        rw [hy2 x hxp hxd (fun e => (List.nodup_cons.1 hn).1 (e ▸ hx)), Nat.one_mul, Nat.mod_mod]
        exact hg1 x hx
    · intro x hxp hxd hx
      rw [mulmod, hy2 x hxp hxd (fun e => hx (by simp [e])), hg2 x hxp hxd (fun e => hx (by simp [e])), Nat.one_mul, h1p]

/-- Every prime has a generator. -/
theorem exists_gen {p : Nat} (hp : Pr p) : ∃ g, 1 ≤ g ∧ g < p ∧ ∀ q, Pr q → q ∣ p - 1 → g ^ ((p - 1) / q) % p ≠ 1 := by
  have hp2 := hp.1
  by_cases h2 : p = 2
  · subst h2
    exact ⟨1, by omega, by omega, fun q hq hd => by have := Nat.le_of_dvd (by omega) hd; have := hq.1; omega⟩
  obtain ⟨l, hl⟩ := exists_fac (p - 1) (by omega)
  have hnd : (l.map (·.1)).Nodup := by
    have : ∀ (l : List (Nat × Nat)) lo, FacFrom lo l → (l.map (·.1)).Nodup := by
      intro l
      induction l with
      | nil => intro lo _; simp
      | cons x l ih =>
        intro lo h
        rw [List.map_cons, List.nodup_cons]
        refine ⟨fun hm => ?_, ih _ h.2.2.2⟩
        obtain ⟨y, hy, he⟩ := List.mem_map.1 hm
        have := (h.2.2.2.gt y hy).1
        omega
    exact this l 1 hl.1
  obtain ⟨g, hgp, hg, _⟩ := gen_parts hp (l.map (·.1)) hnd (fun q hq => by
    obtain ⟨x, hx, rfl⟩ := List.mem_map.1 hq
    have := hl.1.gt x hx
    exact ⟨this.2.1, hl.2 ▸ dvd_prodP hx this.2.2⟩)
  have hall : ∀ q, Pr q → q ∣ p - 1 → g ^ ((p - 1) / q) % p ≠ 1 := fun q hq hd => by
    obtain ⟨x, hx, he⟩ := hl.1.mem_of_dvd hq (by rw [hl.2]; exact hd)
    exact hg q (List.mem_map.2 ⟨x, hx, he⟩)
  have hg0 : g % p ≠ 0 := by
    intro h0
    rw [Nat.pow_mod, h0, Nat.zero_pow (by omega)] at hgp
    simp at hgp
  refine ⟨g % p, by omega, Nat.mod_lt _ (by omega), fun q hq hd => ?_⟩
  rw [← Nat.pow_mod]
  exact hall q hq hd

end Go.Proofs.YtgcjdojhfimceaaGreat.M

namespace Go.Proofs.YtgcjdojhfimceaaGreat.M

theorem binom (y : Nat) : ∀ n : Nat, ∃ c, (1 + y) ^ n = 1 + n * y + y * y * c
  | 0 => ⟨0, by simp⟩
  | n + 1 => by
    obtain ⟨c, hc⟩ := binom y n
    exact ⟨n + c + y * c, by rw [Nat.pow_succ, hc]; grind⟩

theorem mod_one_iff {x m : Nat} (hx : 1 ≤ x) : x % m = 1 % m ↔ m ∣ x - 1 := by
  constructor
  · intro h
    exact Nat.dvd_of_mod_eq_zero (Nat.sub_mod_eq_zero_of_mod_eq h)
  · rintro ⟨c, hc⟩
    rw [show x = 1 + m * c by omega, Nat.add_mul_mod_self_left]

theorem lift_one {x q j : Nat} (hx : 1 ≤ x) (hj : 1 ≤ j) (h : x % q ^ j = 1 % q ^ j) : x ^ q % q ^ (j + 1) = 1 % q ^ (j + 1) := by
  obtain ⟨t, ht⟩ := (mod_one_iff hx).1 h
  rw [mod_one_iff (Nat.pow_pos (by omega))]
  obtain ⟨c, hc⟩ := binom (x - 1) q
  rw [show 1 + (x - 1) = x by omega] at hc
  rw [hc]
  obtain ⟨i, rfl⟩ : ∃ i, j = i + 1 := ⟨j - 1, by omega⟩
  refine ⟨t + q ^ i * t * t * c, ?_⟩
  rw [ht, Nat.pow_succ, Nat.pow_succ]
  have : 1 + q * (q ^ i * q * t) + q ^ i * q * t * (q ^ i * q * t) * c - 1 = q * (q ^ i * q * t) + q ^ i * q * t * (q ^ i * q * t) * c := by omega
  rw [this]
  grind

theorem euler_pow {a q : Nat} (hq : Pr q) (ha : ¬ q ∣ a) : ∀ j, a ^ (q ^ j * (q - 1)) % q ^ (j + 1) = 1 % q ^ (j + 1)
  | 0 => by
    rw [Nat.pow_zero, Nat.one_mul, Nat.pow_one, fermat hq ha, mod_of_one_lt hq.1]
  | j + 1 => by
    have ih := euler_pow hq ha j
    have ha0 : 1 ≤ a := by apply Nat.pos_of_ne_zero; intro e; subst e; exact ha (Nat.dvd_zero q)
    have := lift_one (Nat.pow_pos ha0) (by omega) ih
    rw [← Nat.pow_mul] at this
    rw [Nat.pow_succ, show q ^ j * q * (q - 1) = q ^ j * (q - 1) * q by ac_rfl]
    exact this

def phiP : List (Nat × Nat) → Nat
  | [] => 1
  | x :: l => x.1 ^ (x.2 - 1) * (x.1 - 1) * phiP l

theorem FacFrom.phi_pos {lo : Nat} {l : List (Nat × Nat)} (h : FacFrom lo l) : 1 ≤ phiP l := by
  induction l generalizing lo with
  | nil => simp [phiP]
  | cons x l ih =>
    have h2 := h.2.1.1
    exact Nat.mul_pos (Nat.mul_pos (Nat.pow_pos (by omega)) (by omega)) (ih h.2.2.2)

theorem FacFrom.take {lo : Nat} {l : List (Nat × Nat)} (h : FacFrom lo l) (k : Nat) : FacFrom lo (l.take k) := by
  induction l generalizing lo k with
  | nil => simp; trivial
  | cons x l ih =>
    cases k with
    | zero => trivial
    | succ k => exact ⟨h.1, h.2.1, h.2.2.1, ih h.2.2.2 k⟩

theorem FacFrom.phi_le {lo : Nat} {l : List (Nat × Nat)} (h : FacFrom lo l) : phiP l ≤ prodP l := by
  induction l generalizing lo with
  | nil => simp [phiP, prodP]
  | cons x l ih =>
    have h2 := h.2.1.1
    have h3 := h.2.2.1
    refine Nat.mul_le_mul ?_ (ih h.2.2.2)
    obtain ⟨k, hk⟩ : ∃ k, x.2 = k + 1 := ⟨x.2 - 1, by omega⟩
    rw [hk, Nat.add_sub_cancel, Nat.pow_succ]
    exact Nat.mul_le_mul_left _ (by omega)

theorem FacFrom.euler {lo a : Nat} {l : List (Nat × Nat)} (h : FacFrom lo l) (ha : Nat.Coprime a (prodP l)) : a ^ phiP l % prodP l = 1 % prodP l := by
  induction l generalizing lo with
  | nil => simp [prodP, Nat.mod_one]
  | cons x l ih =>
    have hx2 := h.2.1.1
    have hxe := h.2.2.1
    by_cases hl1 : prodP (x :: l) = 1
    · rw [hl1, Nat.mod_one, Nat.mod_one]
    have ha0 : 1 ≤ a := by
      apply Nat.pos_of_ne_zero; intro e; subst e
      rw [Nat.coprime_zero_left] at ha; exact hl1 ha
    have hdx : x.1 ∣ prodP (x :: l) := dvd_prodP (by simp) hxe
    have hnx : ¬ x.1 ∣ a := fun hd => by
      have := Nat.dvd_gcd hd hdx
      rw [ha] at this
      have := Nat.le_of_dvd (by omega) this
      omega
    have hcl : Nat.Coprime a (prodP l) := Nat.Coprime.coprime_dvd_right (Nat.dvd_mul_left _ _) ha
    have h1 := euler_pow h.2.1 hnx (x.2 - 1)
    rw [show x.2 - 1 + 1 = x.2 by omega] at h1
    have h2 := pow_one_mul h1 (phiP l)
    have h3 := pow_one_mul (ih h.2.2.2 hcl) (x.1 ^ (x.2 - 1) * (x.1 - 1))
    rw [Nat.mul_comm] at h3
    have hp : 1 ≤ a ^ (x.1 ^ (x.2 - 1) * (x.1 - 1) * phiP l) := Nat.pow_pos ha0
    rw [mod_one_iff hp] at h2 h3
    show a ^ (x.1 ^ (x.2 - 1) * (x.1 - 1) * phiP l) % (x.1 ^ x.2 * prodP l) = 1 % (x.1 ^ x.2 * prodP l)
    rw [mod_one_iff hp]
    have hc : Nat.Coprime (x.1 ^ x.2) (prodP l) := by
      simpa using Nat.Coprime.pow_left x.2 (h.2.1.cop (h.2.2.2.not_dvd h.2.1))
    exact hc.mul_dvd_of_dvd_of_dvd h2 h3

/-! ### Roots -/
theorem sq_one {p z : Nat} (hp : Pr p) (h : z * z % p = 1) (h1 : z % p ≠ 1) : z % p = p - 1 := by
  have hp2 := hp.1
  have hz0 : 1 ≤ z := by apply Nat.pos_of_ne_zero; intro e; subst e; simp at h
  have hzz : 1 ≤ z * z := Nat.mul_pos hz0 hz0
  have hd : p ∣ z * z - 1 := (mod_one_iff hzz).1 (by rw [h, mod_of_one_lt hp2])
  have he : z * z - 1 = (z - 1) * (z + 1) := by
    obtain ⟨k, rfl⟩ : ∃ k, z = k + 1 := ⟨z - 1, by omega⟩
    have : (k + 1) * (k + 1) = k * k + 2 * k + 1 := by grind
    have h4 : k * (k + 1 + 1) = k * k + 2 * k := by grind
    rw [this, Nat.add_sub_cancel, Nat.add_sub_cancel, h4]
  rw [he] at hd
  rcases hp.dvd_mul hd with h2 | h2
  · exact absurd (by rw [(mod_one_iff hz0).2 h2, mod_of_one_lt hp2]) h1
  · obtain ⟨c, hc⟩ := h2
    have hc0 : 1 ≤ c := by apply Nat.pos_of_ne_zero; intro e; subst e; omega
    obtain ⟨k, rfl⟩ : ∃ k, c = k + 1 := ⟨c - 1, by omega⟩
    have : z = (p - 1) + p * k := by rw [Nat.mul_succ] at hc; omega
    rw [this, Nat.add_mul_mod_self_left, Nat.mod_eq_of_lt (by omega)]

theorem neg_sq {p x y : Nat} (hp : 2 ≤ p) (hx : x % p = p - 1) (hy : y % p = p - 1) : x * y % p = 1 := by
  rw [Nat.mul_mod, hx, hy]
  obtain ⟨k, rfl⟩ : ∃ k, p = k + 2 := ⟨p - 2, by omega⟩
  rw [show k + 2 - 1 = k + 1 by omega, show (k + 1) * (k + 1) = 1 + (k + 2) * k by grind, Nat.add_mul_mod_self_left, mod_of_one_lt (by omega)]

/-- A remainder that is no square: its power with half the exponent is -1. -/
theorem exists_nonsquare {p : Nat} (hp : Pr p) (h3 : 3 ≤ p) : ∃ c, 2 ≤ c ∧ c < p ∧ c ^ ((p - 1) / 2) % p ≠ 1 := by
  obtain ⟨x, h1, h2, hx⟩ := exists_other hp (d := (p - 1) / 2) (by omega) (by omega)
  refine ⟨x, ?_, h2, hx⟩
  by_cases e : x = 1
  · subst e; rw [Nat.one_pow, mod_of_one_lt (by omega)] at hx; exact absurd rfl hx
  · omega

theorem odd_prime {p : Nat} (hp : Pr p) (h3 : 3 ≤ p) : p % 2 = 1 := by
  by_cases h : p % 2 = 0
  · rcases hp.2 2 (Nat.dvd_of_mod_eq_zero h) with h1 | h1 <;> omega
  · omega

theorem half_neg {p c : Nat} (hp : Pr p) (h3 : 3 ≤ p) (h1 : 1 ≤ c) (h2 : c < p) (hc : c ^ ((p - 1) / 2) % p ≠ 1) : c ^ ((p - 1) / 2) % p = p - 1 := by
  refine sq_one hp ?_ hc
  have ho := odd_prime hp h3
  rw [← Nat.pow_add, show (p - 1) / 2 + (p - 1) / 2 = p - 1 by omega]
  exact fermat hp (not_dvd_of_lt h1 h2)

/-- What a round of the way of Tonelli and Shanks keeps. -/
structure Ton (a p tw root turn ex : Nat) : Prop where
  tw1 : 1 ≤ tw
  sq : root * root % p = a * ex % p
  turn_neg : turn ^ 2 ^ (tw - 1) % p = p - 1
  ex_one : ex ^ 2 ^ (tw - 1) % p = 1
  root_lt : root < p
  turn_lt : turn < p
  ex_lt : ex < p
  ex_pos : 1 ≤ ex

/-- The count of squarings. -/
structure IsSq (x p h : Nat) : Prop where
  one : x ^ 2 ^ h % p = 1
  least : ∀ k, k < h → x ^ 2 ^ k % p ≠ 1

theorem exists_sq {x p n : Nat} (h : x ^ 2 ^ n % p = 1) : ∃ k, k ≤ n ∧ IsSq x p k := by
  induction n with
  | zero => exact ⟨0, Nat.le_refl _, h, fun k hk => by omega⟩
  | succ n ih =>
    by_cases h1 : ∃ k, k ≤ n ∧ x ^ 2 ^ k % p = 1
    · obtain ⟨k, hk, hk1⟩ := h1
      suffices H : ∀ b k, k ≤ b → x ^ 2 ^ k % p = 1 → ∃ k', k' ≤ k ∧ IsSq x p k' by
        obtain ⟨k', h2, h3⟩ := H k k (Nat.le_refl _) hk1
        exact ⟨k', by omega, h3⟩
      intro b
      induction b with
      | zero => intro k hk hx; exact ⟨k, Nat.le_refl _, hx, fun j hj => by omega⟩
      | succ b ihb =>
        intro k hk hx
        by_cases h4 : ∃ j, j < k ∧ x ^ 2 ^ j % p = 1
        · obtain ⟨j, hj, hj1⟩ := h4
          obtain ⟨k', h5, h6⟩ := ihb j (by omega) hj1
          exact ⟨k', by omega, h6⟩
        · exact ⟨k, Nat.le_refl _, hx, fun j hj hj1 => h4 ⟨j, hj, hj1⟩⟩
    · exact ⟨n + 1, Nat.le_refl _, h, fun k hk hk1 => h1 ⟨k, by omega, hk1⟩⟩

theorem Ton.step {a p tw root turn ex h : Nat} (hp : Pr p) (T : Ton a p tw root turn ex) (hex : ex ≠ 1) (hh : IsSq ex p h) :
    1 ≤ h ∧ h < tw ∧ Ton a p h (root * (turn ^ 2 ^ (tw - h - 1) % p) % p) ((turn ^ 2 ^ (tw - h - 1) % p) * (turn ^ 2 ^ (tw - h - 1) % p) % p)
      (ex * ((turn ^ 2 ^ (tw - h - 1) % p) * (turn ^ 2 ^ (tw - h - 1) % p) % p) % p) := by
  have hp2 := hp.1
  have h1 : 1 ≤ h := by
    apply Nat.pos_of_ne_zero; intro e; subst e
    have := hh.one
    rw [Nat.pow_zero, Nat.pow_one, Nat.mod_eq_of_lt T.ex_lt] at this
    exact hex this
  have h2 : h < tw := by
    refine Classical.byContradiction fun hn => ?_
    have := T.tw1
    exact hh.least (tw - 1) (by omega) T.ex_one
  have ht1 := T.tw1
  have hstep : (turn ^ 2 ^ (tw - h - 1) % p) * (turn ^ 2 ^ (tw - h - 1) % p) % p = turn ^ 2 ^ (tw - h) % p := by
    rw [← Nat.mul_mod, ← Nat.pow_add]
    congr 2
    rw [← Nat.mul_two, ← Nat.pow_succ]; congr 1; omega
  have hnz : ∀ n, turn ^ n % p ≠ 0 := by
    intro n hz
    have h3 := hp.dvd_pow (Nat.dvd_of_mod_eq_zero hz)
    have h4 : turn ^ 2 ^ (tw - 1) % p = 0 := Nat.mod_eq_zero_of_dvd (Nat.dvd_trans h3 (by
      obtain ⟨j, hj⟩ : ∃ j, 2 ^ (tw - 1) = j + 1 := ⟨2 ^ (tw - 1) - 1, by have := Nat.pow_pos (n := tw - 1) (show 0 < 2 by omega); omega⟩
      rw [hj, Nat.pow_succ]; exact Nat.dvd_mul_left _ _))
    have := T.turn_neg
    omega
  have hturn : (turn ^ 2 ^ (tw - h) % p) ^ 2 ^ (h - 1) % p = p - 1 := by
    rw [pow_zmod, ← Nat.pow_add, show tw - h + (h - 1) = tw - 1 by omega]
    exact T.turn_neg
  refine ⟨h1, h2, h1, ?_, ?_, ?_, Nat.mod_lt _ (by omega), Nat.mod_lt _ (by omega), Nat.mod_lt _ (by omega), ?_⟩
  · rw [hstep]
    have hs := hstep
    generalize turn ^ 2 ^ (tw - h - 1) % p = s at *
    rw [← Nat.mul_mod, show root * s * (root * s) = (root * root) * (s * s) by ac_rfl, Nat.mul_mod, T.sq, hs, Nat.mod_mul_mod, Nat.mul_mod_mod, Nat.mul_mod_mod, ← Nat.mul_assoc a ex, Nat.mul_mod_mod]
  · rw [hstep]; exact hturn
  · rw [hstep, ← Nat.pow_mod, Nat.mul_pow]
    refine neg_sq hp2 ?_ hturn
    refine sq_one hp ?_ (hh.least (h - 1) (by omega))
    rw [← Nat.pow_add, ← Nat.mul_two, ← Nat.pow_succ, show (h - 1).succ = h by omega]
    exact hh.one
  · apply Nat.pos_of_ne_zero
    intro e
    rw [hstep] at e
    rcases hp.dvd_mul (Nat.dvd_of_mod_eq_zero e) with h3 | h3
    · have := Nat.le_of_dvd T.ex_pos h3
      have := T.ex_lt
      omega
    · have h4 := Nat.mod_lt (turn ^ 2 ^ (tw - h)) (show 0 < p by omega)
      have := Nat.le_of_dvd (Nat.pos_of_ne_zero (hnz _)) h3
      omega

end Go.Proofs.YtgcjdojhfimceaaGreat.M

namespace Go.Proofs.YtgcjdojhfimceaaGreat.M

structure Eu (a m r s x y : Int) : Prop where
  r0 : 1 ≤ r
  s0 : 0 ≤ s
  sr : s < r
  rm : r ≤ m
  gcd : Nat.gcd r.toNat s.toNat = 1
  dx : m ∣ x * a - r
  dy : m ∣ y * a - s
  sgn : (x ≤ 0 ∧ 0 ≤ y ∧ -x * s + y * r = m) ∨ (0 ≤ x ∧ y ≤ 0 ∧ x * s - y * r = m)
  xb : -m ≤ 2 * x ∧ 2 * x ≤ m

theorem Eu.start {a m : Int} (ha : 0 ≤ a) (ham : a < m) (hg : Nat.gcd a.toNat m.toNat = 1) : Eu a m m a 0 1 :=
  ⟨by omega, ha, ham, by omega, by rw [Nat.gcd_comm]; exact hg, by simp, by simp, .inl ⟨by omega, by omega, by simp⟩, by omega⟩

theorem Eu.ybound {a m r s x y : Int} (h : Eu a m r s x y) (hs : 0 < s) : -m ≤ 2 * y ∧ 2 * y ≤ m := by
  have hr : 2 ≤ r := by have := h.sr; omega
  rcases h.sgn with ⟨h1, h2, h3⟩ | ⟨h1, h2, h3⟩
  · have h4 : 0 ≤ -x * s := Int.mul_nonneg (by omega) (by omega)
    have h5 : y * 2 ≤ y * r := Int.mul_le_mul_of_nonneg_left hr h2
    omega
  · have h4 : 0 ≤ x * s := Int.mul_nonneg (by omega) (by omega)
    have h5 : -y * 2 ≤ -y * r := Int.mul_le_mul_of_nonneg_left hr (by omega)
    have h6 : -y * r = -(y * r) := Int.neg_mul ..
    omega

/-- All that a round computes is in range. -/
theorem Eu.step {a m r s x y : Int} (h : Eu a m r s x y) (hs : 0 < s) :
    0 ≤ r / s ∧ r / s ≤ r ∧ 0 ≤ r / s * s ∧ r / s * s ≤ r ∧ -m ≤ r / s * y ∧ r / s * y ≤ m ∧ -m ≤ x - r / s * y ∧ x - r / s * y ≤ m ∧ Eu a m s (r - r / s * s) y (x - r / s * y) := by
  have hr0 := h.r0
  have hq0 : 0 ≤ r / s := Int.ediv_nonneg (by omega) (by omega)
  have hq1 : r / s ≤ r := Int.ediv_le_self _ (by omega)
  have hdm := Int.mul_ediv_add_emod r s
  have hm0 := Int.emod_nonneg r (show s ≠ 0 by omega)
  have hm1 := Int.emod_lt_of_pos r hs
  have hcomm : s * (r / s) = r / s * s := Int.mul_comm ..
  have hgs : Nat.gcd s.toNat (r % s).toNat = 1 := by
    have h1 := h.gcd
    obtain ⟨R, rfl⟩ := Int.eq_ofNat_of_zero_le (show 0 ≤ r by omega)
    obtain ⟨S, rfl⟩ := Int.eq_ofNat_of_zero_le (show 0 ≤ s by omega)
    have e : ((R : Int) % (S : Int)).toNat = R % S := by exact_mod_cast Int.toNat_natCast (R % S)
    rw [e, Int.toNat_natCast, Nat.gcd_comm, ← Nat.gcd_rec, Nat.gcd_comm]
    exact h1
  have he : r - r / s * s = r % s := by omega
  have hyb := h.ybound hs
  have hdx := h.dx
  have hdy := h.dy
  generalize r / s = q at *
  have hsgn : ((y ≤ 0 ∧ 0 ≤ x - q * y ∧ -y * (r - q * s) + (x - q * y) * s = m) ∨ (0 ≤ y ∧ x - q * y ≤ 0 ∧ y * (r - q * s) - (x - q * y) * s = m)) := by
    rcases h.sgn with ⟨h1, h2, h3⟩ | ⟨h1, h2, h3⟩
    · right
      have : 0 ≤ q * y := Int.mul_nonneg hq0 h2
      exact ⟨h2, by omega, by grind⟩
    · left
      have : 0 ≤ q * -y := Int.mul_nonneg hq0 (by omega)
      have e : q * -y = -(q * y) := Int.mul_neg ..
      exact ⟨h2, by omega, by grind⟩
  have hb : -m ≤ x - q * y ∧ x - q * y ≤ m ∧ -m ≤ q * y ∧ q * y ≤ m := by
    have hrs0 : 0 ≤ r - q * s := by omega
    rcases hsgn with ⟨h1, h2, h3⟩ | ⟨h1, h2, h3⟩
    · have h4 : 0 ≤ -y * (r - q * s) := Int.mul_nonneg (by omega) hrs0
      have h5 : (x - q * y) * 1 ≤ (x - q * y) * s := Int.mul_le_mul_of_nonneg_left (by omega) h2
      rcases h.sgn with ⟨h6, h7, _⟩ | ⟨h6, h7, _⟩
      · have : 0 ≤ q * y := Int.mul_nonneg hq0 h7
        omega
      · have : 0 ≤ q * -y := Int.mul_nonneg hq0 (by omega)
        have e : q * -y = -(q * y) := Int.mul_neg ..
        omega
    · have h4 : 0 ≤ y * (r - q * s) := Int.mul_nonneg (by omega) hrs0
      have h5 : -(x - q * y) * 1 ≤ -(x - q * y) * s := Int.mul_le_mul_of_nonneg_left (by omega) (by omega)
      have h6 : -(x - q * y) * s = -((x - q * y) * s) := Int.neg_mul ..
      rcases h.sgn with ⟨h7, h8, _⟩ | ⟨h7, h8, _⟩
      · have : 0 ≤ q * y := Int.mul_nonneg hq0 h8
        omega
      · have : 0 ≤ q * -y := Int.mul_nonneg hq0 (by omega)
        have e : q * -y = -(q * y) := Int.mul_neg ..
        omega
  refine ⟨hq0, hq1, Int.mul_nonneg hq0 (by omega), by omega, hb.2.2.1, hb.2.2.2, hb.1, hb.2.1, ?_⟩
  refine ⟨by omega, by omega, by omega, by have := h.sr; have := h.rm; omega, by rw [he]; exact hgs, hdy, ?_, hsgn, hyb⟩
  have : (x - q * y) * a - (r - q * s) = (x * a - r) - q * (y * a - s) := by grind
  rw [this]
  exact Int.dvd_sub hdx (Int.dvd_trans hdy (Int.dvd_mul_left _ _))

theorem inv_unique {a m v i : Int} (hv0 : 0 ≤ v) (hvm : v < m) (hi0 : 0 ≤ i) (him : i < m) (hv : m ∣ v * a - 1) (hi : a * i % m = 1 % m) : v = i := by
  have h1 : m ∣ a * i - 1 := by
    have := Int.emod_emod_of_dvd
    exact Int.dvd_of_emod_eq_zero (by rw [Int.sub_emod, hi, Int.sub_self, Int.zero_emod])
  have h2 : m ∣ v - i := by
    have : v - i = (a * i - 1) * (-v) + (v * a - 1) * i := by grind
    rw [this]
    exact Int.dvd_add (Int.dvd_trans h1 (Int.dvd_mul_right _ _)) (Int.dvd_trans hv (Int.dvd_mul_right _ _))
  obtain ⟨k, hk⟩ := h2
  rcases (show k < 0 ∨ k = 0 ∨ 0 < k by omega) with h | h | h
  · have : m * k ≤ m * (-1) := Int.mul_le_mul_of_nonneg_left (by omega) (by omega)
    omega
  · subst h; simp at hk; omega
  · have : m * 1 ≤ m * k := Int.mul_le_mul_of_nonneg_left (by omega) (by omega)
    omega

theorem Eu.finish {a m r x y i : Int} (h : Eu a m r 0 x y) (hi0 : 0 ≤ i) (him : i < m) (hi : a * i % m = 1 % m) : (x < 0 → x + m = i) ∧ (0 ≤ x → x = i) ∧ -m < x ∧ x < m := by
  have hr : r = 1 := by
    have := h.gcd
    rw [Int.toNat_zero, Nat.gcd_zero_right] at this
    have := h.r0
    omega
  subst hr
  have hb := h.xb
  have hm : -m < x ∧ x < m := by omega
  refine ⟨fun h0 => ?_, fun h0 => ?_, hm.1, hm.2⟩
  · refine inv_unique (by omega) (by omega) hi0 him ?_ hi
    have : (x + m) * a - 1 = (x * a - 1) + m * a := by grind
    rw [this]
    exact Int.dvd_add h.dx (Int.dvd_mul_right _ _)
  · exact inv_unique h0 hm.2 hi0 him h.dx hi

/-- There is an inverse. -/
theorem exists_inv {a m : Int} (ha : 0 ≤ a) (ham : a < m) (hg : Nat.gcd a.toNat m.toNat = 1) : ∃ i, 0 ≤ i ∧ i < m ∧ a * i % m = 1 % m := by
  obtain ⟨A, rfl⟩ := Int.eq_ofNat_of_zero_le ha
  obtain ⟨N, rfl⟩ := Int.eq_ofNat_of_zero_le (show 0 ≤ m by omega)
  simp only [Int.toNat_natCast] at hg
  obtain ⟨l, hl⟩ := exists_fac N (by omega)
  have h1 := hl.1.euler (a := A) (by rw [hl.2]; exact hg)
  rw [hl.2] at h1
  have h2 := hl.1.phi_pos
  refine ⟨((A ^ (phiP l - 1) % N : Nat) : Int), by omega, by have := Nat.mod_lt (A ^ (phiP l - 1)) (show 0 < N by omega); omega, ?_⟩
  have h3 : A * (A ^ (phiP l - 1) % N) % N = 1 % N := by
    rw [Nat.mul_mod_mod, ← Nat.pow_succ', show (phiP l - 1).succ = phiP l by omega, h1]
  exact_mod_cast h3

theorem gcd_of_inv {a m i : Int} (ha : 0 ≤ a) (ham : a < m) (hi0 : 0 ≤ i) (hi : a * i % m = 1 % m) : Nat.gcd a.toNat m.toNat = 1 := by
  obtain ⟨A, rfl⟩ := Int.eq_ofNat_of_zero_le ha
  obtain ⟨N, rfl⟩ := Int.eq_ofNat_of_zero_le (show 0 ≤ m by omega)
  obtain ⟨I, rfl⟩ := Int.eq_ofNat_of_zero_le hi0
  simp only [Int.toNat_natCast]
  have h : A * I % N = 1 % N := by exact_mod_cast hi
  have h1 : Nat.gcd A N ∣ A * I % N := (Nat.dvd_mod_iff (Nat.gcd_dvd_right A N)).2 (Nat.dvd_trans (Nat.gcd_dvd_left A N) (Nat.dvd_mul_right _ _))
  rw [h] at h1
  exact Nat.dvd_one.1 ((Nat.dvd_mod_iff (Nat.gcd_dvd_right A N)).1 h1)

end Go.Proofs.YtgcjdojhfimceaaGreat.M

namespace Go.Proofs.YtgcjdojhfimceaaGreat.M

theorem FacFrom.two_pow {lo : Nat} {l : List (Nat × Nat)} (h : FacFrom lo l) : 2 ^ l.length ≤ prodP l := by
  induction l generalizing lo with
  | nil => simp [prodP]
  | cons x l ih =>
    have h2 := h.2.1.1
    have h3 : x.1 ^ 1 ≤ x.1 ^ x.2 := Nat.pow_le_pow_right (by omega) h.2.2.1
    rw [Nat.pow_one] at h3
    have h4 := Nat.mul_le_mul (show 2 ≤ x.1 ^ x.2 by omega) (ih h.2.2.2)
    rw [List.length_cons, Nat.pow_succ, Nat.mul_comm]
    exact h4

theorem lt_of_two_pow {e n : Nat} (h : 2 ^ e ≤ n) (hn : n ≤ 2147483647) : e ≤ 30 := by
  refine Classical.byContradiction fun hc => ?_
  have : 2 ^ 31 ≤ 2 ^ e := Nat.pow_le_pow_right (by omega) (by omega)
  omega

theorem FacFrom.length_le {lo : Nat} {l : List (Nat × Nat)} (h : FacFrom lo l) (hn : prodP l ≤ 2147483647) : l.length ≤ 30 := lt_of_two_pow h.two_pow hn

theorem FacFrom.prod_drop_le {lo : Nat} {l : List (Nat × Nat)} (h : FacFrom lo l) (k : Nat) : prodP (l.drop k) ≤ prodP l := by
  have h1 : prodP l = prodP (l.take k) * prodP (l.drop k) := by rw [← prodP_append, List.take_append_drop]
  have h2 : 1 ≤ prodP (l.take k) := by
    apply Nat.pos_of_ne_zero
    intro e
    rw [e] at h1
    have := h.pos
    omega
  rw [h1]
  exact Nat.le_mul_of_pos_left _ h2

/-- What 'take' does: what is known of the exponent, of the rest, of the list behind it. -/
structure Taken (L : List (Nat × Nat)) (k d k' e r : Nat) : Prop where
  le : k' ≤ L.length
  val : prodP (L.drop k) = d ^ e * r ∧ ¬ d ∣ r ∧ 1 ≤ r
  list : (L.take k ++ if e = 0 then [] else [(d, e)]) = L.take k'
  rest : r = prodP (L.drop k')
  fac : FacFrom d (L.drop k')

theorem take_step {L : List (Nat × Nat)} {k d : Nat} (hd : 2 ≤ d) (hk : k ≤ L.length) (h : FacFrom (d - 1) (L.drop k)) : ∃ k' e r, Taken L k d k' e r := by
  by_cases hn : FacFrom d (L.drop k)
  · refine ⟨k, 0, prodP (L.drop k), hk, ⟨by simp, fun hdv => ?_, hn.pos⟩, by simp, rfl, hn⟩
    have := hn.lt_div hd hdv
    omega
  · match hL : L.drop k, h, hn with
    | [], _, hn => exact absurd trivial hn
    | x :: t, h, hn =>
      have hx : x.1 = d := by
        refine Classical.byContradiction fun hc => hn ⟨?_, h.2⟩
        have := h.1
        omega
      have hkl : k < L.length := by
        refine Classical.byContradiction fun hc => ?_
        rw [List.drop_eq_nil_of_le (by omega)] at hL
        cases hL
      have hdk : L.drop (k + 1) = t := by
        rw [← List.drop_drop, hL]; rfl
      have hxk : L[k]? = some x := by
        have h5 : (L.drop k)[0]? = some x := by rw [hL]; rfl
        rw [List.getElem?_drop] at h5
        simpa using h5
      have h3 := h.2.2.1
      subst hx
      refine ⟨k + 1, x.2, prodP t, by omega, ⟨by rw [hL]; rfl, h.2.2.2.not_dvd h.2.1, h.2.2.2.pos⟩, ?_, by rw [hdk], by rw [hdk]; exact h.2.2.2⟩
      rw [if_neg (by omega), List.take_add_one, hxk]
      rfl

theorem FacFrom.next_odd {d : Nat} {l : List (Nat × Nat)} (h : FacFrom d l) (hd : d % 2 = 1) (h3 : 3 ≤ d) : FacFrom (d + 1) l := by
  match l, h with
  | [], _ => trivial
  | x :: l, h =>
    refine ⟨?_, h.2⟩
    have h1 := h.1
    have : x.1 ≠ d + 1 := by
      intro e
      rcases h.2.1.2 2 (Nat.dvd_of_mod_eq_zero (by omega)) with h4 | h4 <;> omega
    omega

/-- Nothing is left, or one prime. -/
theorem FacFrom.last {d : Nat} {l : List (Nat × Nat)} (h : FacFrom (d - 1) l) (hd : 2 ≤ d) (hs : prodP l < d * d) : (l = [] ∧ prodP l = 1) ∨ (l = [(prodP l, 1)] ∧ 2 ≤ prodP l ∧ Pr (prodP l)) := by
  match l, h with
  | [], _ => exact .inl ⟨rfl, rfl⟩
  | x :: l, h =>
    right
    have h1 := h.1
    have h2 := h.2.2.1
    have hpos := h.2.2.2.pos
    have hx2 : x.2 = 1 := by
      refine Classical.byContradiction fun hc => ?_
      have h3 : x.1 ^ 2 ≤ x.1 ^ x.2 := Nat.pow_le_pow_right (by omega) (by omega)
      have h4 : d * d ≤ x.1 ^ 2 := by rw [Nat.pow_two]; exact Nat.mul_le_mul (by omega) (by omega)
      have h5 : x.1 ^ x.2 * 1 ≤ x.1 ^ x.2 * prodP l := Nat.mul_le_mul_left _ hpos
      have h6 : prodP (x :: l) = x.1 ^ x.2 * prodP l := rfl
      omega
    have hl : l = [] := by
      match l, h.2.2.2 with
      | [], _ => rfl
      | y :: l, h' =>
        exfalso
        have h3 := h'.1
        have h4 := h'.2.2.1
        have h5 := h'.2.2.2.pos
        have h6 : y.1 ^ 1 ≤ y.1 ^ y.2 := Nat.pow_le_pow_right (by omega) h4
        rw [Nat.pow_one] at h6
        have h7 : y.1 ^ y.2 * 1 ≤ y.1 ^ y.2 * prodP l := Nat.mul_le_mul_left _ h5
        have h8 : prodP (x :: y :: l) = x.1 ^ x.2 * (y.1 ^ y.2 * prodP l) := rfl
        rw [hx2, Nat.pow_one] at h8
        have h9 : d * d ≤ x.1 * (y.1 ^ y.2 * prodP l) := Nat.mul_le_mul (by omega) (by omega)
        omega
    subst hl
    have he : prodP [x] = x.1 := by simp [prodP, hx2]
    rw [he]
    refine ⟨?_, h.2.1.1, h.2.1⟩
    rw [show x = (x.1, 1) from Prod.ext rfl hx2]

end Go.Proofs.YtgcjdojhfimceaaGreat.M

namespace Go.Proofs.YtgcjdojhfimceaaGreat.M

/-- The exponent e, behind the first k primes: the order divides it, and no more of these primes can be divided out. -/
structure OAt (o phi : Nat) (L : List (Nat × Nat)) (k e : Nat) : Prop where
  dvd : o ∣ e
  up : e ∣ phi
  pos : 1 ≤ e
  done : ∀ j (h : j < L.length), j < k → ¬ o * L[j].1 ∣ e

theorem OAt.start {a o phi m : Nat} {L : List (Nat × Nat)} (ho : IsOrd a o m) (h1 : 1 ≤ phi) (h : a ^ phi % m = 1 % m) : OAt o phi L 0 phi :=
  ⟨ho.dvd h, Nat.dvd_refl _, h1, fun j _ hj => by omega⟩

theorem order_test {a o m e q : Nat} (ho : IsOrd a o m) (hq : 1 ≤ q) (hd : q ∣ e) : a ^ (e / q) % m = 1 % m ↔ o * q ∣ e := by
  obtain ⟨c, rfl⟩ := hd
  rw [Nat.mul_div_cancel_left _ (by omega), Nat.mul_comm o q]
  constructor
  · intro h
    exact Nat.mul_dvd_mul_left q (ho.dvd h)
  · intro h
    obtain ⟨d, hd⟩ := Nat.dvd_of_mul_dvd_mul_left (by omega) h
    rw [hd]; exact pow_one_mul ho.one d

theorem OAt.div {o phi k e q : Nat} {L : List (Nat × Nat)} (h : OAt o phi L k e) (hq : 2 ≤ q) (hd : o * q ∣ e) : OAt o phi L k (e / q) ∧ e / q < e := by
  obtain ⟨c, hc⟩ := hd
  have hpos := h.pos
  have he : e / q = o * c := by rw [hc, show o * q * c = q * (o * c) by ac_rfl, Nat.mul_div_cancel_left _ (by omega)]
  have hde : e / q ∣ e := Nat.div_dvd_of_dvd ⟨o * c, by rw [hc]; ac_rfl⟩
  have hlt : e / q < e := Nat.div_lt_self hpos (by omega)
  refine ⟨⟨⟨c, he⟩, Nat.dvd_trans hde h.up, ?_, fun j hj hk hjd => h.done j hj hk (Nat.dvd_trans hjd hde)⟩, hlt⟩
  exact Nat.pos_of_dvd_of_pos hde hpos

theorem OAt.next {o phi k e : Nat} {L : List (Nat × Nat)} (h : OAt o phi L k e) (hk : k < L.length) (hd : ¬ o * L[k].1 ∣ e) : OAt o phi L (k + 1) e :=
  ⟨h.dvd, h.up, h.pos, fun j hj hjk => by
    by_cases e1 : j = k
    · subst e1; exact hd
    · exact h.done j hj (by omega)⟩

theorem OAt.finish {o phi e : Nat} {L : List (Nat × Nat)} (h : OAt o phi L L.length e) (hL : IsFac phi L) : e = o := by
  obtain ⟨c, hc⟩ := h.dvd
  have hpos := h.pos
  by_cases h1 : c = 1
  · subst h1; omega
  · have hc0 : c ≠ 0 := fun e0 => by subst e0; omega
    obtain ⟨q, hq, hqc⟩ := exists_prime c (by omega)
    exfalso
    have hqe : q ∣ phi := Nat.dvd_trans (Nat.dvd_trans hqc ⟨o, by rw [hc, Nat.mul_comm]⟩) h.up
    obtain ⟨x, hx, hxq⟩ := hL.1.mem_of_dvd hq (by rw [hL.2]; exact hqe)
    obtain ⟨j, hj, hjx⟩ := List.getElem_of_mem hx
    refine h.done j hj hj ?_
    rw [hjx, hxq, hc]
    exact Nat.mul_dvd_mul_left o hqc

/-- In the form that the program's tests have. -/
theorem pw_test {a m : Int} {o e q : Nat} (ho : IsOrd a.toNat o m.toNat) (hq : 1 ≤ q) (hd : q ∣ e) : pw a ((e : Int) / (q : Int)) m = ((1 % m.toNat : Nat) : Int) ↔ o * q ∣ e := by
  rw [← order_test ho hq hd]
  unfold pw
  have : ((e : Int) / (q : Int)).toNat = e / q := by
    rw [show ((e : Int) / (q : Int)) = ((e / q : Nat) : Int) from rfl, Int.toNat_natCast]
  rw [this]
  omega

end Go.Proofs.YtgcjdojhfimceaaGreat.M

namespace Go.Proofs.YtgcjdojhfimceaaGreat.M

theorem exists_least_other {p : Nat} (hp : Pr p) (h3 : 3 ≤ p) : ∃ c, 2 ≤ c ∧ c < p ∧ c ^ ((p - 1) / 2) % p ≠ 1 ∧ ∀ d, 2 ≤ d → d < c → d ^ ((p - 1) / 2) % p = 1 := by
  obtain ⟨c, h1, h2, hc⟩ := exists_nonsquare hp h3
  suffices H : ∀ b c, c ≤ b → 2 ≤ c → c < p → c ^ ((p - 1) / 2) % p ≠ 1 → ∃ c, 2 ≤ c ∧ c < p ∧ c ^ ((p - 1) / 2) % p ≠ 1 ∧ ∀ d, 2 ≤ d → d < c → d ^ ((p - 1) / 2) % p = 1 from H c c (Nat.le_refl _) h1 h2 hc
  intro b
  induction b with
  | zero => intro c h0 h1; omega
  | succ b ih =>
    intro c hb h1 h2 hc
    by_cases h : ∃ d, 2 ≤ d ∧ d < c ∧ d ^ ((p - 1) / 2) % p ≠ 1
    · obtain ⟨d, hd1, hd2, hd3⟩ := h
      exact ih d (by omega) hd1 (by omega) hd3
    · exact ⟨c, h1, h2, hc, fun d hd1 hd2 => Classical.byContradiction fun hd3 => h ⟨d, hd1, hd2, hd3⟩⟩

theorem Ton.start {a p c odd tw : Nat} (hp : Pr p) (h3 : 3 ≤ p) (ha1 : 1 ≤ a) (hap : a < p) (ha : a ^ ((p - 1) / 2) % p = 1) (hc1 : 1 ≤ c) (hcp : c < p) (hc : c ^ ((p - 1) / 2) % p ≠ 1)
    (ho : p - 1 = odd * 2 ^ tw) (hodd : odd % 2 = 1) : Ton a p tw (a ^ ((odd + 1) / 2) % p) (c ^ odd % p) (a ^ odd % p) := by
  have hpo := odd_prime hp h3
  have htw : 1 ≤ tw := by
    apply Nat.pos_of_ne_zero; intro e; subst e
    simp at ho; omega
  have hhalf : odd * 2 ^ (tw - 1) = (p - 1) / 2 := by
    obtain ⟨k, rfl⟩ : ∃ k, tw = k + 1 := ⟨tw - 1, by omega⟩
    rw [Nat.pow_succ] at ho
    rw [Nat.add_sub_cancel, ho, ← Nat.mul_assoc, Nat.mul_div_cancel _ (by omega)]
  refine ⟨htw, ?_, ?_, ?_, Nat.mod_lt _ (by omega), Nat.mod_lt _ (by omega), Nat.mod_lt _ (by omega), ?_⟩
  · rw [← Nat.mul_mod, ← Nat.pow_add, Nat.mul_mod_mod, ← Nat.pow_succ', show (odd + 1) / 2 + (odd + 1) / 2 = odd.succ by omega]
  · rw [pow_zmod, hhalf]; exact half_neg hp h3 hc1 hcp hc
  · rw [pow_zmod, hhalf]; exact ha
  · apply Nat.pos_of_ne_zero
    intro e
    have := hp.dvd_pow (Nat.dvd_of_mod_eq_zero e)
    exact not_dvd_of_lt ha1 hap this

theorem Ton.finish {a p tw root turn : Nat} (T : Ton a p tw root turn 1) (ha : a < p) : root * root % p = a := by
  rw [T.sq, Nat.mul_one, Nat.mod_eq_of_lt ha]

theorem Ton.tw_lt {a p tw root turn ex : Nat} (T : Ton a p tw root turn ex) : ∃ h, IsSq ex p h ∧ h < tw := by
  obtain ⟨h, h1, h2⟩ := exists_sq T.ex_one
  exact ⟨h, h2, by have := T.tw1; omega⟩

theorem min_root {p x a : Nat} (hx : x < p) (h : x * x % p = a) : (p - x) * (p - x) % p = a := by
  by_cases h0 : x = 0
  · subst h0
    rw [Nat.sub_zero, Nat.mul_mod_right]
    simpa using h
  · have h1 : (p - x) * (p - x) % p = x * x % p := by
      have e : (p - x) * (p - x) + p * (2 * x) = x * x + p * p := by
        obtain ⟨y, rfl⟩ : ∃ y, p = x + y := ⟨p - x, by omega⟩
        rw [Nat.add_sub_cancel_left]
        grind
      have h2 := congrArg (· % p) e
      simp only [Nat.add_mul_mod_self_left] at h2
      exact h2
    rw [h1, h]

end Go.Proofs.YtgcjdojhfimceaaGreat.M

namespace Go.Proofs.YtgcjdojhfimceaaGreat.M

theorem exists_root (n : Nat) (h1 : 1 ≤ n) : ∃ W, 1 ≤ W ∧ n ≤ W * W ∧ ∀ v, 1 ≤ v → v < W → v * v < n := by
  suffices H : ∀ b W, W ≤ b → 1 ≤ W → n ≤ W * W → ∃ W, 1 ≤ W ∧ n ≤ W * W ∧ ∀ v, 1 ≤ v → v < W → v * v < n from
    H n n (Nat.le_refl _) h1 (Nat.le_mul_of_pos_right _ h1)
  intro b
  induction b with
  | zero => intro W h0 h1; omega
  | succ b ih =>
    intro W hb h1 hW
    by_cases h : ∃ v, 1 ≤ v ∧ v < W ∧ n ≤ v * v
    · obtain ⟨v, h2, h3, h4⟩ := h
      exact ih v (by omega) h2 h4
    · refine ⟨W, h1, hW, fun v h2 h3 => ?_⟩
      refine Classical.byContradiction fun h4 => h ⟨v, h2, h3, by omega⟩

theorem root_le {n W : Nat} (hn : n ≤ 2147483647) (h : ∀ v, 1 ≤ v → v < W → v * v < n) : W ≤ 46341 := by
  refine Classical.byContradiction fun hc => ?_
  have := h 46341 (by omega) (by omega)
  omega

theorem root_self {n W : Nat} (h1 : 1 ≤ n) (h : ∀ v, 1 ≤ v → v < W → v * v < n) : W ≤ n := by
  refine Classical.byContradiction fun hc => ?_
  have h2 := h n h1 (by omega)
  have := Nat.le_mul_of_pos_right n h1
  omega

theorem IsOrd.eq_of {g o p i j : Nat} (h : IsOrd g o p) (hi : i < o) (hj : j < o) (he : g ^ i % p = g ^ j % p) : i = j := by
  rcases Nat.lt_trichotomy i j with h1 | h1 | h1
  · exact absurd he (h.inj h1 hj)
  · exact h1
  · exact absurd he.symm (h.inj h1 hi)

/-- Everything whose power with the order is 1 is a power, modulo a prime. -/
theorem IsOrd.log {g o p a : Nat} (hp : Pr p) (h : IsOrd g o p) (hap : a < p) (ha : a ^ o % p = 1) : ∃ k, k < o ∧ a = g ^ k % p := by
  refine Classical.byContradiction fun hno => ?_
  have h1p := mod_of_one_lt hp.1
  have hnot : ∀ k, k < o → a ≠ g ^ k % p := fun k hk e => hno ⟨k, hk, e⟩
  have hlen := roots_of_one hp h.pos (a :: (List.range o).map fun i => g ^ i % p) (by
    rw [List.nodup_cons]
    refine ⟨fun hm => ?_, ?_⟩
    · obtain ⟨k, hk, he⟩ := List.mem_map.1 hm
      exact hnot k (List.mem_range.1 hk) he.symm
    · rw [List.nodup_iff_pairwise_ne, List.pairwise_map]
      refine List.Pairwise.imp_of_mem ?_ (List.pairwise_lt_range (n := o))
      intro i j _ hj hij
      exact h.inj hij (List.mem_range.1 hj)) (by
    intro x hx
    rcases List.mem_cons.1 hx with rfl | hx
    · exact ⟨hap, ha⟩
    · obtain ⟨k, hk, rfl⟩ := List.mem_map.1 hx
      refine ⟨Nat.mod_lt _ (by have := hp.1; omega), ?_⟩
      rw [pow_zmod, Nat.mul_comm, pow_one_mul h.one, h1p])
  simp at hlen
  omega

/-- A great step back. -/
theorem step_back {g p W b x : Nat} (hb : g ^ W * b % p = 1 % p) (hx : W ≤ x) : g ^ x % p * b % p = g ^ (x - W) % p := by
  rw [Nat.mod_mul_mod, show g ^ x = g ^ (x - W) * g ^ W by rw [← Nat.pow_add]; congr 1; omega, Nat.mul_assoc, Nat.mul_mod, hb, ← Nat.mul_mod, Nat.mul_one]

end Go.Proofs.YtgcjdojhfimceaaGreat.M

namespace Go.Proofs.YtgcjdojhfimceaaGreat.M

/-- How often the multiple is added, so that the rest r modulo m is left; none, if it never is. -/
def stepT (x all r m : Nat) : Option Nat := (List.range (m / Nat.gcd all m)).find? fun T => (x + all * T) % m == r

def crt : Nat → Nat → List (Nat × Nat) → Option (Nat × Nat)
  | x, all, [] => some (x, all)
  | x, all, (r, m) :: t =>
    match stepT x all r m with
    | none => none
    | some T => crt (x + all * T) (all * (m / Nat.gcd all m)) t

def maxMul : Nat := 4611686018427387904

/-- Whether the least common multiple stays within the limit. -/
def small : Nat → List Nat → Bool
  | _, [] => true
  | all, m :: l => if maxMul / (m / Nat.gcd all m) < all then false else small (all * (m / Nat.gcd all m)) l

def lcmOf : Nat → List Nat → Nat
  | all, [] => all
  | all, m :: l => lcmOf (all * (m / Nat.gcd all m)) l

theorem gcd_parts {all m : Nat} (ha : 1 ≤ all) (hm : 1 ≤ m) :
    1 ≤ Nat.gcd all m ∧ all = Nat.gcd all m * (all / Nat.gcd all m) ∧ m = Nat.gcd all m * (m / Nat.gcd all m) ∧ Nat.Coprime (all / Nat.gcd all m) (m / Nat.gcd all m) ∧ 1 ≤ m / Nat.gcd all m ∧ 1 ≤ all / Nat.gcd all m ∧ m / Nat.gcd all m ≤ m := by
  have hg : 0 < Nat.gcd all m := Nat.gcd_pos_of_pos_left _ ha
  refine ⟨hg, (Nat.mul_div_cancel' (Nat.gcd_dvd_left all m)).symm, (Nat.mul_div_cancel' (Nat.gcd_dvd_right all m)).symm, Nat.coprime_div_gcd_div_gcd hg, ?_, ?_, Nat.div_le_self _ _⟩
  · exact Nat.div_pos (Nat.le_of_dvd hm (Nat.gcd_dvd_right all m)) hg
  · exact Nat.div_pos (Nat.le_of_dvd ha (Nat.gcd_dvd_left all m)) hg

/-- What T is: in range, and it closes the gap. -/
structure IsT (x all r m T : Nat) : Prop where
  lt : T < m / Nat.gcd all m
  dvd : ((m / Nat.gcd all m : Nat) : Int) ∣ ((all / Nat.gcd all m : Nat) : Int) * T - ((r : Int) - x) / ((Nat.gcd all m : Nat) : Int)

theorem IsT.mod {x all r m T : Nat} (ha : 1 ≤ all) (hm : 1 ≤ m) (hr : r < m) (hg : ((Nat.gcd all m : Nat) : Int) ∣ (r : Int) - x) (h : IsT x all r m T) : (x + all * T) % m = r := by
  obtain ⟨g1, e1, e2, hc, _⟩ := gcd_parts ha hm
  have h1 := h.dvd
  have hk := Int.mul_ediv_cancel' hg
  generalize Nat.gcd all m = g at *
  generalize all / g = A at *
  generalize m / g = N at *
  generalize ((r : Int) - x) / (g : Int) = D at *
  obtain ⟨c, hc2⟩ := h1
  have h2 : ((x + all * T : Nat) : Int) = r + m * c := by
    have e3 : (all : Int) = (g : Int) * (A : Int) := by rw [e1]; simp
    have e4 : (m : Int) = (g : Int) * (N : Int) := by rw [e2]; simp
    rw [Int.natCast_add, Int.natCast_mul, e3, e4]
    grind
  have h3 : ((x + all * T : Nat) : Int) % (m : Int) = (r : Int) := by
    rw [h2, Int.add_mul_emod_self_left, Int.emod_eq_of_lt (by omega) (by omega)]
  exact_mod_cast h3

theorem T_unique {x all r m T T' : Nat} (ha : 1 ≤ all) (hm : 1 ≤ m) (hT : T < m / Nat.gcd all m) (hT' : T' < m / Nat.gcd all m) (h : (x + all * T) % m = r) (h' : (x + all * T') % m = r) : T = T' := by
  obtain ⟨g1, e1, e2, hc, _⟩ := gcd_parts ha hm
  have key : ∀ {S S' : Nat}, S ≤ S' → S' < m / Nat.gcd all m → (x + all * S) % m = r → (x + all * S') % m = r → S = S' := by
    intro S S' hle hlt hS hS'
    have h1 : m ∣ (x + all * S') - (x + all * S) := Nat.dvd_of_mod_eq_zero (Nat.sub_mod_eq_zero_of_mod_eq (hS'.trans hS.symm))
    have h2 : (x + all * S') - (x + all * S) = all * (S' - S) := by rw [Nat.mul_sub]; omega
    rw [h2] at h1
    have h3 : m / Nat.gcd all m ∣ all / Nat.gcd all m * (S' - S) := by
      refine Nat.dvd_of_mul_dvd_mul_left g1 ?_
      rw [← e2, ← Nat.mul_assoc, ← e1]; exact h1
    have h4 := hc.symm.dvd_of_dvd_mul_left h3
    by_cases h0 : S' - S = 0
    · omega
    · have := Nat.le_of_dvd (by omega) h4; omega
  rcases Nat.le_total T T' with hl | hl
  · exact key hl hT' h h'
  · exact (key hl hT h' h).symm

theorem find_range {n T : Nat} {p : Nat → Bool} (hT : T < n) (hp : p T = true) (hu : ∀ S, S < n → p S = true → S = T) : (List.range n).find? p = some T := by
  cases hf : (List.range n).find? p with
  | none =>
    have := List.find?_eq_none.1 hf T (List.mem_range.2 hT)
    exact absurd hp this
  | some S =>
    have h1 := List.find?_some hf
    have h2 := List.mem_of_find?_eq_some hf
    rw [hu S (List.mem_range.1 h2) h1]

theorem stepT_some {x all r m T : Nat} (ha : 1 ≤ all) (hm : 1 ≤ m) (hr : r < m) (hg : ((Nat.gcd all m : Nat) : Int) ∣ (r : Int) - x) (h : IsT x all r m T) : stepT x all r m = some T := by
  have h1 := h.mod ha hm hr hg
  refine find_range h.lt (by simpa using h1) fun S hS hp => ?_
  exact T_unique ha hm hS h.lt (by simpa using hp) h1

theorem stepT_none {x all r m : Nat} (hg : ¬ ((Nat.gcd all m : Nat) : Int) ∣ (r : Int) - x) : stepT x all r m = none := by
  refine List.find?_eq_none.2 fun T _ hp => hg ?_
  have h1 : (x + all * T) % m = r := by simpa using hp
  have h2 := Nat.div_add_mod (x + all * T) m
  rw [h1] at h2
  have h3 : (r : Int) - x = (all : Int) * T - (m : Int) * (((x + all * T) / m : Nat) : Int) := by
    have h4 : ((m * ((x + all * T) / m) + r : Nat) : Int) = ((x + all * T : Nat) : Int) := by rw [h2]
    rw [Int.natCast_add, Int.natCast_mul, Int.natCast_add, Int.natCast_mul] at h4
    omega
  rw [h3]
  exact Int.dvd_sub (Int.dvd_trans (Int.natCast_dvd_natCast.2 (Nat.gcd_dvd_left all m)) (Int.dvd_mul_right _ _)) (Int.dvd_trans (Int.natCast_dvd_natCast.2 (Nat.gcd_dvd_right all m)) (Int.dvd_mul_right _ _))

/-- The number that closes the gap, by an inverse i of the step. -/
theorem closes {A N : Nat} {D i : Int} (hi : ((A : Int) % N) * i % (N : Int) = 1 % (N : Int)) :
    (N : Int) ∣ (A : Int) * (D % N * i % N) - D := by
  refine Int.dvd_of_emod_eq_zero ?_
  rw [Int.sub_emod, Int.mul_emod, Int.emod_emod, ← Int.mul_emod]
  have h1 : (A : Int) * (D % N * i) % N = D % N := by
    have h2 : (A : Int) * (D % N * i) = (D % N) * (A * i) := by grind
    have h5 : ((A : Int) * i) % (N : Int) = 1 % (N : Int) := by rw [← hi, Int.mul_emod (A : Int) i, Int.mul_emod ((A : Int) % N) i, Int.emod_emod]
    rw [h2, Int.mul_emod, h5, ← Int.mul_emod, Int.mul_one, Int.emod_emod]
  rw [h1, Int.sub_self, Int.zero_emod]

theorem exists_step_inv {A N : Nat} (hN : 1 ≤ N) (hc : Nat.Coprime A N) : ∃ i : Int, 0 ≤ i ∧ i < N ∧ ((A : Int) % N) * i % (N : Int) = 1 % (N : Int) := by
  have h0 := Int.emod_nonneg (A : Int) (show (N : Int) ≠ 0 by omega)
  have h1 := Int.emod_lt_of_pos (A : Int) (show (0 : Int) < N by omega)
  refine exists_inv h0 h1 ?_
  have : ((A : Int) % N).toNat = A % N := by exact_mod_cast Int.toNat_natCast (A % N)
  rw [this, Int.toNat_natCast]
  have h2 : Nat.gcd N (A % N) = Nat.gcd N A := by
    rw [Nat.gcd_comm N (A % N), ← Nat.gcd_rec N A]
  rw [Nat.gcd_comm, h2, Nat.gcd_comm]
  exact hc

theorem exists_T {x all r m : Nat} (ha : 1 ≤ all) (hm : 1 ≤ m) : ∃ T, IsT x all r m T := by
  obtain ⟨g1, e1, e2, hc, hN, _⟩ := gcd_parts ha hm
  obtain ⟨i, hi0, hi1, hi⟩ := exists_step_inv hN hc
  have h := closes (A := all / Nat.gcd all m) (D := ((r : Int) - x) / ((Nat.gcd all m : Nat) : Int)) hi
  have hv0 := Int.emod_nonneg (((r : Int) - x) / ((Nat.gcd all m : Nat) : Int) % ((m / Nat.gcd all m : Nat) : Int) * i) (show ((m / Nat.gcd all m : Nat) : Int) ≠ 0 by omega)
  have hv1 := Int.emod_lt_of_pos (((r : Int) - x) / ((Nat.gcd all m : Nat) : Int) % ((m / Nat.gcd all m : Nat) : Int) * i) (show (0 : Int) < ((m / Nat.gcd all m : Nat) : Int) by omega)
  obtain ⟨T, hT⟩ := Int.eq_ofNat_of_zero_le hv0
  rw [hT] at h hv1
  exact ⟨T, by omega, h⟩

theorem T_value {A N T : Nat} {D v : Int} (hc : Nat.Coprime A N) (hT : T < N) (hv0 : 0 ≤ v) (hvN : v < N) (h : (N : Int) ∣ (A : Int) * T - D) (h' : (N : Int) ∣ (A : Int) * v - D) : v = T := by
  obtain ⟨V, rfl⟩ := Int.eq_ofNat_of_zero_le hv0
  have key : ∀ {S S' : Nat}, S ≤ S' → S' < N → (N : Int) ∣ (A : Int) * S - D → (N : Int) ∣ (A : Int) * S' - D → S = S' := by
    intro S S' hle hlt h1 h2
    have h3 := Int.dvd_sub h2 h1
    have h4 : (A : Int) * S' - D - ((A : Int) * S - D) = ((A * (S' - S) : Nat) : Int) := by
      rw [Int.natCast_mul, Int.natCast_sub hle, Int.mul_sub]; omega
    rw [h4] at h3
    have h5 : N ∣ A * (S' - S) := Int.natCast_dvd_natCast.1 h3
    have h6 := hc.symm.dvd_of_dvd_mul_left h5
    by_cases h0 : S' - S = 0
    · omega
    · have := Nat.le_of_dvd (by omega) h6; omega
  rcases Nat.le_total T V with hl | hl
  · rw [key hl (by omega) h h']
  · rw [key hl hT h' h]

/-- A step stays below the new multiple. -/
theorem step_lt {x all m T : Nat} (hx : x < all) (hT : T < m / Nat.gcd all m) : x + all * T < all * (m / Nat.gcd all m) := by
  have h1 : all * (T + 1) ≤ all * (m / Nat.gcd all m) := Nat.mul_le_mul_left _ hT
  rw [Nat.mul_succ] at h1
  omega

theorem small_le {all m : Nat} {l : List Nat} (ha : 1 ≤ all) (hm : 1 ≤ m) (h : small all (m :: l) = true) : all * (m / Nat.gcd all m) ≤ maxMul ∧ small (all * (m / Nat.gcd all m)) l = true ∧ ¬ maxMul / (m / Nat.gcd all m) < all := by
  rw [small] at h
  have hN := (gcd_parts ha hm).2.2.2.2.1
  split at h
  · cases h
  · rename_i h1
    refine ⟨?_, h, h1⟩
    have h2 : all ≤ maxMul / (m / Nat.gcd all m) := by omega
    exact (Nat.le_div_iff_mul_le hN).1 h2

/-- The rests of one number: each step finds it again. -/
theorem stepT_rest {N all m : Nat} (ha : 1 ≤ all) (hm : 1 ≤ m) : ∃ T, stepT (N % all) all (N % m) m = some T ∧ N % all + all * T = N % (all * (m / Nat.gcd all m)) := by
  obtain ⟨g1, e1, e2, _, hN1, _, _⟩ := gcd_parts ha hm
  have hd1 : all ∣ all * (m / Nat.gcd all m) := Nat.dvd_mul_right _ _
  have hd2 : m ∣ all * (m / Nat.gcd all m) := by
    refine ⟨all / Nat.gcd all m, ?_⟩
    generalize hg : Nat.gcd all m = g at *
    generalize hA : all / g = A at *
    generalize hM : m / g = C at *
    rw [e1, e2]; ac_rfl
  have hpos : 0 < all * (m / Nat.gcd all m) := Nat.mul_pos ha hN1
  have hlt := Nat.mod_lt N hpos
  generalize hy : N % (all * (m / Nat.gcd all m)) = y at *
  have h1 : y % all = N % all := by rw [← hy, Nat.mod_mod_of_dvd _ hd1]
  have h2 : y % m = N % m := by rw [← hy, Nat.mod_mod_of_dvd _ hd2]
  have h3 := Nat.div_add_mod y all
  rw [h1] at h3
  refine ⟨y / all, ?_, by omega⟩
  have hT : y / all < m / Nat.gcd all m := (Nat.div_lt_iff_lt_mul ha).2 (by rw [Nat.mul_comm]; exact hlt)
  have hval : (N % all + all * (y / all)) % m = N % m := by rw [Nat.add_comm, h3, h2]
  exact find_range hT (by simpa using hval) fun S hS hp => T_unique ha hm hS hT (by simpa using hp) hval

theorem crt_rests {N : Nat} : ∀ (Q : List Nat) (all : Nat), 1 ≤ all → (∀ q ∈ Q, 1 ≤ q) → crt (N % all) all (Q.map fun q => (N % q, q)) = some (N % lcmOf all Q, lcmOf all Q)
  | [], all, _, _ => rfl
  | m :: Q, all, ha, hq => by
    have hm := hq m (by simp)
    obtain ⟨T, h1, h2⟩ := stepT_rest (N := N) ha hm
    have hN1 := (gcd_parts ha hm).2.2.2.2.1
    rw [List.map_cons, crt, h1]
    show crt (N % all + all * T) _ _ = _
    rw [h2, crt_rests Q _ (Nat.mul_pos ha hN1) (fun q hq' => hq q (by simp [hq']))]
    rfl

theorem lcm_pos : ∀ (Q : List Nat) (all : Nat), 1 ≤ all → (∀ q ∈ Q, 1 ≤ q) → 1 ≤ lcmOf all Q ∧ all ∣ lcmOf all Q ∧ ∀ q ∈ Q, q ∣ lcmOf all Q
  | [], all, ha, _ => ⟨ha, Nat.dvd_refl _, by simp⟩
  | m :: Q, all, ha, hq => by
    have hm := hq m (by simp)
    obtain ⟨g1, e1, e2, _, hN1, _, _⟩ := gcd_parts ha hm
    obtain ⟨h1, h2, h3⟩ := lcm_pos Q (all * (m / Nat.gcd all m)) (Nat.mul_pos ha hN1) (fun q hq' => hq q (by simp [hq']))
    have hd2 : m ∣ all * (m / Nat.gcd all m) := by
      refine ⟨all / Nat.gcd all m, ?_⟩
      generalize hg : Nat.gcd all m = g at *
      generalize hA : all / g = A at *
      generalize hM : m / g = C at *
      rw [e1, e2]; ac_rfl
    refine ⟨h1, Nat.dvd_trans (Nat.dvd_mul_right _ _) h2, fun q hq' => ?_⟩
    rcases List.mem_cons.1 hq' with rfl | hq'
    · exact Nat.dvd_trans hd2 h2
    · exact h3 q hq'

theorem small_few {b : Nat} : ∀ (Q : List Nat) (all : Nat), 1 ≤ all → (∀ q ∈ Q, 1 ≤ q ∧ q ≤ b) → all * b ^ Q.length ≤ maxMul → 1 ≤ b → small all Q = true
  | [], _, _, _, _, _ => rfl
  | m :: Q, all, ha, hq, hle, hb => by
    obtain ⟨hm1, hm2⟩ := hq m (by simp)
    obtain ⟨g1, e1, e2, _, hN1, _, hNm⟩ := gcd_parts ha hm1
    have h1 : all * (m / Nat.gcd all m) * b ^ Q.length ≤ all * b ^ (m :: Q).length := by
      rw [List.length_cons, Nat.pow_succ, Nat.mul_assoc]
      refine Nat.mul_le_mul_left _ ?_
      rw [Nat.mul_comm]
      exact Nat.mul_le_mul_left _ (by omega)
    have h2 : all * (m / Nat.gcd all m) ≤ maxMul := by
      have h3 : all * (m / Nat.gcd all m) * 1 ≤ all * (m / Nat.gcd all m) * b ^ Q.length := Nat.mul_le_mul_left _ (Nat.pow_pos (by omega))
      omega
    rw [small, if_neg]
    · exact small_few Q _ (Nat.mul_pos ha hN1) (fun q hq' => hq q (by simp [hq'])) (by omega) hb
    · have := (Nat.le_div_iff_mul_le hN1).2 h2
      omega

theorem small_lcm : ∀ (Q : List Nat) (all : Nat), 1 ≤ all → all ≤ maxMul → (∀ q ∈ Q, 1 ≤ q) → small all Q = true → lcmOf all Q ≤ maxMul
  | [], _, _, h, _, _ => h
  | m :: Q, all, ha, _, hq, hs => by
    have hm := hq m (by simp)
    obtain ⟨h1, h2, _⟩ := small_le ha hm hs
    exact small_lcm Q _ (Nat.mul_pos ha (gcd_parts ha hm).2.2.2.2.1) h1 (fun q hq' => hq q (by simp [hq'])) h2

end Go.Proofs.YtgcjdojhfimceaaGreat.M

namespace Go.Proofs.YtgcjdojhfimceaaGreat.M

/-- An entry of a proof. -/
structure Ent where
  P : Int
  W : Int
  F : List Int

/-- The power modulo P, on numbers as they come. -/
def powB (W e P : Int) : Bool := pw W e P == 1

/-- What is left of n when q is divided out as often as possible. -/
def stripAll (q : Nat) : Nat → Nat → Nat
  | 0, n => n
  | f + 1, n => if n % q = 0 then stripAll q f (n / q) else n

def strips (q n : Int) : Int := ((stripAll q.toNat n.toNat n.toNat : Nat) : Int)

/-- The program's check of the factors. -/
def areF (S : List Int) : Int → Int → List Int → Bool
  | _, rest, [] => rest == 1
  | last, rest, q :: F => if q ≤ last ∨ q ∉ S ∨ rest % q ≠ 0 then false else areF S q (strips q rest) F

def gensI (W P : Int) (F : List Int) : Bool := F.all fun q => !(powB W ((P - 1) / q) P)

/-- The program's check of an entry. -/
def entP (S : List Int) (E : Ent) : Bool :=
  if E.P = 2 then E.W == 1 && E.F.length == 0
  else if E.P % 2 = 0 ∨ E.W < 2 ∨ E.P ≤ E.W then false
  else areF S 1 (E.P - 1) E.F && (powB E.W (E.P - 1) E.P && gensI E.W E.P E.F)

/-- The program's check of a list of entries, behind those whose P are in S (the last one first). -/
def proofP (n : Int) : Int → List Int → List Ent → Bool
  | last, _, [] => last == n
  | last, S, E :: L => if E.P ≤ last ∨ n < E.P ∨ entP S E = false then false else proofP n E.P (E.P :: S) L

/-- The reference's check of the factors. -/
def areR (S : List Int) (W P : Int) : Option Int → Int → List Int → Bool
  | _, rest, [] => rest == 1
  | prev, rest, q :: F => if (∃ p, prev = some p ∧ q ≤ p) ∨ q ∉ S ∨ (P - 1) % q ≠ 0 ∨ powB W ((P - 1) / q) P = true then false else areR S W P (some q) (strips q rest) F

/-- The reference's check of an entry. -/
def entR (S : List Int) (E : Ent) : Bool :=
  if E.P = 2 then E.W == 1 && E.F.length == 0
  else if E.P < 3 ∨ E.P % 2 = 0 ∨ E.W < 2 ∨ E.P ≤ E.W ∨ powB E.W (E.P - 1) E.P = false then false
  else areR S E.W E.P none (E.P - 1) E.F

def proofR (n : Int) : Option Int → List Int → List Ent → Bool
  | last, _, [] => last == some n
  | last, S, E :: L => if (∃ p, last = some p ∧ E.P ≤ p) ∨ n < E.P ∨ entR S E = false then false else proofR n (some E.P) (E.P :: S) L

/-! ### Stripping -/
theorem stripAll_spec {q : Nat} (hq : 2 ≤ q) : ∀ (f n : Nat), n ≤ f → 1 ≤ n → ∃ e, n = q ^ e * stripAll q f n ∧ ¬ q ∣ stripAll q f n ∧ 1 ≤ stripAll q f n
  | 0, n, h, h1 => by omega
  | f + 1, n, h, h1 => by
    by_cases hd : n % q = 0
    · have hdv := Nat.dvd_of_mod_eq_zero hd
      have hlt : n / q < n := Nat.div_lt_self h1 hq
      have hpos : 1 ≤ n / q := Nat.div_pos (Nat.le_of_dvd h1 hdv) (by omega)
      obtain ⟨e, h2, h3, h4⟩ := stripAll_spec hq f (n / q) (by omega) hpos
      rw [stripAll, if_pos hd]
      refine ⟨e + 1, ?_, h3, h4⟩
      rw [Nat.pow_succ, Nat.mul_comm (q ^ e), Nat.mul_assoc, ← h2, Nat.mul_div_cancel' hdv]
    · rw [stripAll, if_neg hd]
      exact ⟨0, by simp, fun h5 => hd (Nat.mod_eq_zero_of_dvd h5), h1⟩

theorem strips_spec {q n : Int} (hq : 2 ≤ q) (hn : 1 ≤ n) : ∃ e : Nat, n.toNat = q.toNat ^ e * (strips q n).toNat ∧ ¬ q.toNat ∣ (strips q n).toNat ∧ 1 ≤ strips q n ∧ strips q n ≤ n := by
  obtain ⟨e, h1, h2, h3⟩ := stripAll_spec (q := q.toNat) (by omega) n.toNat n.toNat (Nat.le_refl _) (by omega)
  have hs : (strips q n).toNat = stripAll q.toNat n.toNat n.toNat := by unfold strips; simp
  refine ⟨e, by rw [hs]; exact h1, by rw [hs]; exact h2, by unfold strips; omega, ?_⟩
  have h4 : stripAll q.toNat n.toNat n.toNat ≤ n.toNat := by
    have h5 : 1 * stripAll q.toNat n.toNat n.toNat ≤ q.toNat ^ e * stripAll q.toNat n.toNat n.toNat := Nat.mul_le_mul_right _ (Nat.pow_pos (by omega))
    omega
  unfold strips; omega

/-- What the factors that were divided out have in common with what is left. -/
structure Left (n rest : Nat) (D : List Int) : Prop where
  pos : 1 ≤ rest
  dvd : rest ∣ n
  prime : ∀ q, Pr q → q ∣ n → (q : Int) ∈ D ∨ q ∣ rest
  none : ∀ q ∈ D, ¬ q.toNat ∣ rest

theorem Left.step {n rest : Nat} {D : List Int} {q : Int} (h : Left n rest D) (hq : Pr q.toNat) : Left n (strips q rest).toNat (q :: D) := by
  have hq2 := hq.1
  obtain ⟨e, h1, h2, h3, h4⟩ := strips_spec (q := q) (n := (rest : Int)) (by omega) (by have := h.pos; omega)
  rw [Int.toNat_natCast] at h1
  generalize (strips q rest).toNat = s at *
  have hsd : s ∣ rest := ⟨q.toNat ^ e, by rw [h1]; exact Nat.mul_comm ..⟩
  have hs1 : 1 ≤ s := by
    apply Nat.pos_of_ne_zero
    intro e0
    subst e0
    have := h.pos
    omega
  refine ⟨hs1, Nat.dvd_trans hsd h.dvd, fun p hp hpn => ?_, fun x hx => ?_⟩
  · rcases h.prime p hp hpn with h5 | h5
    · exact .inl (List.mem_cons_of_mem _ h5)
    · rw [h1] at h5
      rcases hp.dvd_mul h5 with h6 | h6
      · have h7 := hp.dvd_pow h6
        rcases hq.2 p h7 with h8 | h8
        · have := hp.1; omega
        · exact .inl (by rw [show (p : Int) = q by omega]; exact List.mem_cons_self ..)
      · exact .inr h6
  · rcases List.mem_cons.1 hx with rfl | hx
    · exact h2
    · exact fun hd => h.none x hx (Nat.dvd_trans hd hsd)

theorem Left.start (n : Nat) (h : 1 ≤ n) : Left n n [] := ⟨h, Nat.dvd_refl _, fun _ _ hd => .inr hd, by simp⟩

/-- A prime that was not divided out divides what is left just if it divides the whole. -/
theorem Left.dvd_iff {n rest : Nat} {D : List Int} {q : Nat} (h : Left n rest D) (hq : Pr q) (hD : (q : Int) ∉ D) : q ∣ rest ↔ q ∣ n := by
  constructor
  · exact fun hd => Nat.dvd_trans hd h.dvd
  · intro hd
    rcases h.prime q hq hd with h1 | h1
    · exact absurd h1 hD
    · exact h1

theorem emod_ne_iff {a q : Int} (ha : 0 ≤ a) (hq : 1 ≤ q) : a % q ≠ 0 ↔ ¬ q.toNat ∣ a.toNat := by
  obtain ⟨A, rfl⟩ := Int.eq_ofNat_of_zero_le ha
  obtain ⟨Q, rfl⟩ := Int.eq_ofNat_of_zero_le (show 0 ≤ q by omega)
  rw [Int.toNat_natCast, Int.toNat_natCast]
  constructor
  · exact fun h hd => h (Int.emod_eq_zero_of_dvd (by exact_mod_cast hd))
  · exact fun h he => h (by exact_mod_cast Int.dvd_of_emod_eq_zero he)

/-- Both checks of the factors agree, where the earlier ones are primes. -/
theorem are_eq {S : List Int} {W P : Int} (hS : ∀ q ∈ S, Pr q.toNat ∧ 2 ≤ q) (hP : 3 ≤ P) :
    ∀ (F : List Int) (last : Int) (prev : Option Int) (rest : Int) (D : List Int), (∀ p, prev = some p → p = last) → (prev = none → last = 1) → 1 ≤ rest → Left (P - 1).toNat rest.toNat D → (∀ d ∈ D, d ≤ last) →
      areR S W P prev rest F = (areF S last rest F && gensI W P F)
  | [], last, prev, rest, D, _, _, _, _, _ => by simp [areR, areF, gensI]
  | q :: F, last, prev, rest, D, h1, h2, h3, h4, h5 => by
    by_cases hqS : q ∈ S
    · obtain ⟨hq, hq2⟩ := hS q hqS
      by_cases hle : q ≤ last
      · have hA : areF S last rest (q :: F) = false := by rw [areF, if_pos (.inl hle)]
        rw [hA, Bool.false_and, areR]
        cases prev with
        | none => have := h2 rfl; omega
        | some p => rw [if_pos (.inl ⟨p, rfl, by rw [h1 p rfl]; exact hle⟩)]
      · have hD : ((q.toNat : Nat) : Int) ∉ D := fun hd => by have := h5 _ hd; omega
        have hiff := h4.dvd_iff hq hD
        have hm1 := emod_ne_iff (a := rest) (q := q) (by omega) (by omega)
        have hm2 := emod_ne_iff (a := P - 1) (q := q) (by omega) (by omega)
        have hno : ¬ ∃ p, prev = some p ∧ q ≤ p := by
          rintro ⟨p, hp1, hp2⟩
          have := h1 p hp1
          omega
        by_cases hdv : q.toNat ∣ rest.toNat
        · have hr0 : rest % q = 0 := by
            refine Classical.byContradiction fun hc => (hm1.1 hc) hdv
          have hP0 : (P - 1) % q = 0 := by
            refine Classical.byContradiction fun hc => (hm2.1 hc) (hiff.1 hdv)
          have hA : areF S last rest (q :: F) = areF S q (strips q rest) F := by
            rw [areF, if_neg]
            rintro (h | h | h)
            · exact hle h
            · exact h hqS
            · exact h hr0
          have hG : gensI W P (q :: F) = (!(powB W ((P - 1) / q) P) && gensI W P F) := by simp [gensI]
          rw [hA, hG, areR]
          by_cases hp : powB W ((P - 1) / q) P = true
          · rw [if_pos (.inr (.inr (.inr hp))), hp]; simp
          · have hpf : powB W ((P - 1) / q) P = false := by simpa using hp
            rw [if_neg]
            · have hst := h4.step hq
              have hrn : ((rest.toNat : Nat) : Int) = rest := by omega
              rw [hrn] at hst
              obtain ⟨_, _, _, h8, _⟩ := strips_spec (q := q) (n := rest) hq2 h3
              rw [hpf, are_eq hS hP F q (some q) (strips q rest) (q :: D) (fun p hp' => by cases hp'; rfl) (fun hn => by cases hn) h8 hst (fun d hd => by
                rcases List.mem_cons.1 hd with rfl | hd
                · exact Int.le_refl _
                · have := h5 d hd; omega)]
              simp
            · rintro (h | h | h | h)
              · exact hno h
              · exact h hqS
              · exact h hP0
              · exact hp h
        · have hr0 : rest % q ≠ 0 := hm1.2 hdv
          have hP0 : (P - 1) % q ≠ 0 := hm2.2 fun h => hdv (hiff.2 h)
          rw [areF, if_pos (.inr (.inr hr0)), areR, if_pos (.inr (.inr (.inl hP0)))]; rfl
    · rw [areF, if_pos (.inr (.inl hqS)), areR, if_pos (.inr (.inl hqS))]; rfl

/-- All that is divided out by a right list of factors. -/
theorem areF_primes {S : List Int} (hS : ∀ q ∈ S, Pr q.toNat ∧ 2 ≤ q) {n : Nat} : ∀ (F : List Int) (last rest : Int) (D : List Int), 1 ≤ rest → Left n rest.toNat D → areF S last rest F = true →
    ∀ q, Pr q → q ∣ n → (q : Int) ∈ D ∨ (q : Int) ∈ F
  | [], last, rest, D, h1, h2, h3, q, hq, hd => by
    have : rest = 1 := by simpa [areF] using h3
    subst this
    rcases h2.prime q hq hd with h4 | h4
    · exact .inl h4
    · have h5 : q ≤ 1 := Nat.le_of_dvd (by omega) h4
      have := hq.1
      omega
  | x :: F, last, rest, D, h1, h2, h3, q, hq, hd => by
    rw [areF] at h3
    split at h3
    · cases h3
    · rename_i h4
      have hx : x ∈ S := Classical.byContradiction fun hc => h4 (.inr (.inl hc))
      obtain ⟨hxp, hx2⟩ := hS x hx
      have hst := h2.step hxp
      rw [show ((rest.toNat : Nat) : Int) = rest by omega] at hst
      obtain ⟨_, _, _, h8, _⟩ := strips_spec (q := x) (n := rest) hx2 h1
      rcases areF_primes hS F x (strips x rest) (x :: D) h8 hst h3 q hq hd with h5 | h5
      · rcases List.mem_cons.1 h5 with h6 | h6
        · exact .inr (by rw [h6]; exact List.mem_cons_self ..)
        · exact .inl h6
      · exact .inr (List.mem_cons_of_mem _ h5)

theorem ent_eq {S : List Int} (hS : ∀ q ∈ S, Pr q.toNat ∧ 2 ≤ q) {E : Ent} (hP : 2 ≤ E.P) : entR S E = entP S E := by
  unfold entR entP
  by_cases h2 : E.P = 2
  · rw [if_pos h2, if_pos h2]
  · rw [if_neg h2, if_neg h2]
    by_cases hb : E.P % 2 = 0 ∨ E.W < 2 ∨ E.P ≤ E.W
    · rw [if_pos hb, if_pos (by rcases hb with h | h | h <;> simp [h])]
    · rw [if_neg hb]
      have heq := are_eq (W := E.W) hS (show 3 ≤ E.P by omega) E.F 1 none (E.P - 1) [] (fun p hp => by cases hp) (fun _ => rfl) (by omega) (Left.start _ (by omega)) (by simp)
      by_cases hp : powB E.W (E.P - 1) E.P = true
      · rw [if_neg, heq, hp, Bool.true_and]
        rintro (h | h | h | h | h)
        · omega
        · exact hb (.inl h)
        · exact hb (.inr (.inl h))
        · exact hb (.inr (.inr h))
        · rw [hp] at h; cases h
      · have hpf : powB E.W (E.P - 1) E.P = false := by simpa using hp
        rw [if_pos (by simp [hpf]), hpf]; simp

theorem ent_prime {S : List Int} (hS : ∀ q ∈ S, Pr q.toNat ∧ 2 ≤ q) {E : Ent} (hP : 2 ≤ E.P) (h : entP S E = true) : Pr E.P.toNat := by
  unfold entP at h
  split at h
  · rename_i h2
    rw [h2]
    refine ⟨by simp, fun d hd => ?_⟩
    have h1 : d ∣ 2 := hd
    have h3 := Nat.le_of_dvd (by omega) h1
    have h4 : 0 < d := Nat.pos_of_dvd_of_pos h1 (by omega)
    rcases (show d = 1 ∨ d = 2 by omega) with rfl | rfl
    · exact .inl rfl
    · exact .inr rfl
  · split at h
    · cases h
    · rename_i h2 hb
      rw [Bool.and_eq_true, Bool.and_eq_true] at h
      obtain ⟨h3, h4, h5⟩ := h
      have hW : 2 ≤ E.W ∧ E.W < E.P := by omega
      have hprimes := areF_primes hS (n := (E.P - 1).toNat) E.F 1 (E.P - 1) [] (by omega) (Left.start _ (by omega)) h3
      have hpw : E.W.toNat ^ (E.P.toNat - 1) % E.P.toNat = 1 := by
        unfold powB pw at h4
        rw [beq_iff_eq] at h4
        rw [show (E.P - 1).toNat = E.P.toNat - 1 by omega] at h4
        omega
      refine pratt (w := E.W.toNat) (by omega) hpw fun q hq hd => ?_
      rw [show E.P.toNat - 1 = (E.P - 1).toNat by omega] at hd
      rcases hprimes q hq hd with h6 | h6
      · cases h6
      · unfold gensI at h5
        rw [List.all_eq_true] at h5
        have h7 := h5 _ h6
        unfold powB pw at h7
        have e1 : ((E.P - 1) / (q : Int)).toNat = (E.P.toNat - 1) / q := by
          obtain ⟨p, hp⟩ := Int.eq_ofNat_of_zero_le (show 0 ≤ E.P - 1 by omega)
          rw [hp, show ((p : Int) / (q : Int)) = ((p / q : Nat) : Int) from rfl, Int.toNat_natCast]
          congr 1; omega
        rw [e1] at h7
        intro h8
        rw [h8] at h7
        simp at h7

theorem proof_eq {n : Int} : ∀ (L : List Ent) (last : Int) (prev : Option Int) (S : List Int), (∀ q ∈ S, Pr q.toNat ∧ 2 ≤ q) → 1 ≤ last → (∀ p, prev = some p → p = last) → (prev = none → last = 1) →
    proofR n prev S L = (if prev = none ∧ L = [] then false else proofP n last S L)
  | [], last, prev, S, _, _, h1, h2 => by
    cases prev with
    | none => simp [proofR]
    | some p => simp [proofR, proofP, h1 p rfl]
  | E :: L, last, prev, S, hS, hl, h1, h2 => by
    rw [if_neg (by simp), proofR, proofP]
    by_cases hle : E.P ≤ last
    · rw [if_pos (show E.P ≤ last ∨ n < E.P ∨ entP S E = false from .inl hle)]
      cases prev with
      | none =>
        have hl1 := h2 rfl
        have : entR S E = false := by
          unfold entR
          rw [if_neg (by omega), if_pos (.inl (by omega))]
        rw [if_pos (.inr (.inr this))]
      | some p => rw [if_pos (.inl ⟨p, rfl, by rw [h1 p rfl]; exact hle⟩)]
    · have he := ent_eq hS (E := E) (by omega)
      have hno : ¬ ∃ p, prev = some p ∧ E.P ≤ p := by
        rintro ⟨p, hp1, hp2⟩
        have := h1 p hp1
        omega
      rw [he]
      by_cases hb : n < E.P ∨ entP S E = false
      · rw [if_pos (.inr hb), if_pos (.inr hb)]
      · rw [if_neg (fun h => h.elim hno hb), if_neg (fun h => h.elim hle hb)]
        have hent : entP S E = true := by
          cases h : entP S E with
          | true => rfl
          | false => exact absurd (.inr h) hb
        rw [proof_eq L E.P (some E.P) (E.P :: S) (fun q hq => by
          rcases List.mem_cons.1 hq with rfl | hq
          · exact ⟨ent_prime hS (by omega) hent, by omega⟩
          · exact hS q hq) (by omega) (fun p hp => by cases hp; rfl) (fun hn => by cases hn)]
        simp

/-- A right list of entries proves that the last P is a prime. -/
theorem proof_prime {n : Int} : ∀ (L : List Ent) (last : Int) (S : List Int), (∀ q ∈ S, Pr q.toNat ∧ 2 ≤ q) → 1 ≤ last → (last = 1 ∨ Pr last.toNat) → proofP n last S L = true → n = 1 ∧ L = [] ∨ Pr n.toNat
  | [], last, S, _, _, hp, h => by
    have : last = n := by simpa [proofP] using h
    subst this
    rcases hp with h1 | h1
    · exact .inl ⟨h1, rfl⟩
    · exact .inr h1
  | E :: L, last, S, hS, hl, _, h => by
    rw [proofP] at h
    split at h
    · cases h
    · rename_i hb
      have hle : ¬ E.P ≤ last := fun h => hb (.inl h)
      have hent : entP S E = true := by
        cases h : entP S E with
        | true => rfl
        | false => exact absurd (.inr (.inr h)) hb
      have hpr := ent_prime hS (E := E) (by omega) hent
      rcases proof_prime L E.P (E.P :: S) (fun q hq => by
        rcases List.mem_cons.1 hq with rfl | hq
        · exact ⟨hpr, by omega⟩
        · exact hS q hq) (by omega) (.inr hpr) h with h1 | h1
      · obtain ⟨h2, rfl⟩ := h1
        right
        have : E.P = n := by simpa [proofP] using h
        rw [← this]; exact hpr
      · exact .inr h1

end Go.Proofs.YtgcjdojhfimceaaGreat.M

namespace Go.Proofs.YtgcjdojhfimceaaGreat.Q

/-- How many numbers are left without the zeros at the end. -/
def trimLen : List Nat → Nat
  | [] => 0
  | a :: l => if trimLen l = 0 then (if a = 0 then 0 else 1) else trimLen l + 1

def trim (f : List Nat) : List Nat := f.take (trimLen f)

theorem trimLen_le : ∀ f : List Nat, trimLen f ≤ f.length
  | [] => Nat.le_refl _
  | a :: l => by
    have := trimLen_le l
    rw [trimLen, List.length_cons]
    split
    · split <;> omega
    · omega

theorem trim_length (f : List Nat) : (trim f).length = trimLen f := by
  rw [trim, List.length_take]; have := trimLen_le f; omega

theorem trimLen_zero : ∀ (f : List Nat) (j : Nat), trimLen f ≤ j → f.getD j 0 = 0
  | [], j, _ => by simp
  | a :: l, j, h => by
    rw [trimLen] at h
    have ih := trimLen_zero l
    split at h
    · next h0 =>
      cases j with
      | zero => split at h <;> simp_all
      | succ j => simp only [List.getD_cons_succ]; exact ih j (by omega)
    · cases j with
      | zero => omega
      | succ j => simp only [List.getD_cons_succ]; exact ih j (by omega)

theorem trimLen_last : ∀ (f : List Nat), 0 < trimLen f → f.getD (trimLen f - 1) 0 ≠ 0
  | [], h => by simp [trimLen] at h
  | a :: l, h => by
    have ih := trimLen_last l
    rw [trimLen] at h ⊢
    split
    · next h0 =>
      rw [if_pos h0] at h
      split
      · next h1 => simp [h1] at h
      · next h1 => simpa using h1
    · next h0 =>
      obtain ⟨k, hk⟩ : ∃ k, trimLen l = k + 1 := ⟨trimLen l - 1, by omega⟩
      rw [hk] at ih ⊢
      simp only [Nat.add_sub_cancel, List.getD_cons_succ] at ih ⊢
      exact ih (by omega)

/-- Where the loop that trims stops. -/
theorem trimLen_eq {f : List Nat} {n : Nat} (hz : ∀ j, n ≤ j → f.getD j 0 = 0) (hn : n = 0 ∨ f.getD (n - 1) 0 ≠ 0) : trimLen f = n := by
  rcases Nat.lt_trichotomy (trimLen f) n with h | h | h
  · rcases hn with h0 | h0
    · omega
    · exact absurd (trimLen_zero f (n - 1) (by omega)) h0
  · exact h
  · exact absurd (hz (trimLen f - 1) (by omega)) (trimLen_last f (by omega))

/-- Lists joined number by number, zero standing for what a list lacks. -/
def comb (J : Nat → Nat → Nat) (f g : List Nat) : List Nat := (List.range (max f.length g.length)).map fun i => J (f.getD i 0) (g.getD i 0)

theorem comb_length (J : Nat → Nat → Nat) (f g : List Nat) : (comb J f g).length = max f.length g.length := by simp [comb]
theorem comb_get (J : Nat → Nat → Nat) (f g : List Nat) (i : Nat) (h : i < (comb J f g).length) : (comb J f g)[i] = J (f.getD i 0) (g.getD i 0) := by simp [comb]

def sumP (p : Nat) (f g : List Nat) : List Nat := trim (comb (fun a b => (a + b) % p) f g)
def difP (p : Nat) (f g : List Nat) : List Nat := trim (comb (fun a b => (a + p - b) % p) f g)

/-- The terms of the product's coefficient m that the first i coefficients of f make. -/
def conv (f g : List Nat) (m : Nat) : Nat → Nat
  | 0 => 0
  | i + 1 => conv f g m i + if i ≤ m then f.getD i 0 * g.getD (m - i) 0 else 0

def prodP' (p : Nat) (f g : List Nat) : List Nat :=
  if f.length = 0 ∨ g.length = 0 then [] else (List.range (f.length + g.length - 1)).map fun m => conv f g m f.length % p

theorem prod_length {p : Nat} {f g : List Nat} (hf : f.length ≠ 0) (hg : g.length ≠ 0) : (prodP' p f g).length = f.length + g.length - 1 := by
  rw [prodP', if_neg (by omega)]; simp
theorem prod_nil {p : Nat} {f g : List Nat} (h : f.length = 0 ∨ g.length = 0) : prodP' p f g = [] := by rw [prodP', if_pos h]

/-- rest - c g, in place from i on. -/
def takeAway (p c i : Nat) (g rest : List Nat) : List Nat := rest.mapIdx fun k x => if i ≤ k ∧ k < i + g.length then (x + (p - c) * g.getD (k - i) 0) % p else x

theorem takeAway_length (p c i : Nat) (g rest : List Nat) : (takeAway p c i g rest).length = rest.length := by simp [takeAway]

/-- The rounds of the division: i of them are left. -/
def divLoop (p inv : Nat) (g : List Nat) : Nat → List Nat → List Nat → List Nat × List Nat
  | 0, rest, q => (rest, q)
  | i + 1, rest, q =>
    let c := rest.getD (i + (g.length - 1)) 0 * inv % p
    divLoop p inv g i (if c = 0 then rest else takeAway p c i g rest) (c :: q)

/-- The inverse, 0 where there is none. -/
def invM (p a : Nat) : Nat := ((List.range p).find? fun i => a * i % p == 1 % p).getD 0

def divP (p : Nat) (f g : List Nat) : List Nat × List Nat :=
  if f.length < g.length then ([], f)
  else
    let r := divLoop p (invM p (g.getD (g.length - 1) 0)) g (f.length - (g.length - 1)) f []
    (r.2, trim (r.1.take (g.length - 1)))

def remP (p : Nat) (f g : List Nat) : List Nat := (divP p f g).2

def monicC (p : Nat) (f : List Nat) : List Nat := if f.length = 0 then [] else [invM p (f.getD (f.length - 1) 0)]
def monicP (p : Nat) (f : List Nat) : List Nat := if f.length = 0 then [] else prodP' p f (monicC p f)

/-- The greatest common divisor, in at most n steps. -/
def gcdLoop (p : Nat) : Nat → List Nat → List Nat → Option (List Nat)
  | 0, _, _ => none
  | n + 1, f, g => if g.length = 0 then some (monicP p f) else gcdLoop p n g (remP p f g)

def valP (p : Nat) (f : List Nat) (x : Nat) : Nat := f.foldr (fun c v => (v * x + c) % p) 0

/-- The power modulo g, in at most n halvings. -/
def raiseLoop (p : Nat) (g : List Nat) : Nat → List Nat → List Nat → Nat → List Nat
  | 0, result, _, _ => result
  | n + 1, result, square, e =>
    if e = 0 then result
    else raiseLoop p g n (if e % 2 = 1 then remP p (prodP' p result square) g else result) (remP p (prodP' p square square) g) (e / 2)

def raiseP (p : Nat) (f : List Nat) (e : Nat) (g : List Nat) : List Nat := raiseLoop p g e [1] f e

def deriv (p : Nat) (f : List Nat) : List Nat := trim ((List.range (f.length - 1)).map fun i => (i + 1) * f.getD (i + 1) 0 % p)
def rootP (p : Nat) (f : List Nat) : List Nat := (List.range ((f.length - 1) / p + 1)).map fun i => f.getD (i * p) 0

/-- How often part divides f, and what is left: in at most n steps. -/
def takeOut (p : Nat) (part : List Nat) : Nat → Nat → List Nat → Option (Nat × List Nat)
  | 0, _, _ => none
  | n + 1, exp, f => let d := divP p f part; if d.2.length = 0 then takeOut p part n (exp + 1) d.1 else some (exp, f)

/-! ### Matrices -/
def firstRow (rows : List (List Nat)) (j i : Nat) : Nat → Nat
  | 0 => i
  | n + 1 => if (rows.getD i []).getD j 0 = 0 then firstRow rows j (i + 1) n else i

def swapRows (rows : List (List Nat)) (i d : Nat) : List (List Nat) := (rows.set i (rows.getD d [])).set d (rows.getD i [])

def clearCol (p : Nat) (rows : List (List Nat)) (row j : Nat) : List (List Nat) :=
  let r := prodP' p (rows.getD row []) [invM p ((rows.getD row []).getD j 0)]
  (rows.set row r).mapIdx fun i x => let times := p - x.getD j 0; if i ≠ row ∧ times < p then comb (fun a b => (a + times * b) % p) x r else x

def redLoop (p n : Nat) : Nat → Nat → List (List Nat) → List Int → List (List Nat) × List Int
  | 0, _, rows, piv => (rows, piv)
  | k + 1, done, rows, piv =>
    let j := n - (k + 1)
    let i := firstRow rows j done (n - done)
    if i = n then redLoop p n k done rows piv
    else redLoop p n k (done + 1) (clearCol p (swapRows rows i done) done j) (piv.set j (done : Int))

def reducedP (p : Nat) (m : List (List Nat)) : List (List Nat) × List Int := redLoop p m.length m.length 0 m (List.replicate m.length (-1))

def column (p n j : Nat) (rows : List (List Nat)) (piv : List Int) : List Nat :=
  (List.range n).map fun i => let r := piv.getD i (-1); if 0 ≤ r then (p - (rows.getD r.toNat []).getD j 0) % p else if i = j then 1 else 0

def kernelP (p : Nat) (m : List (List Nat)) : List (List Nat) :=
  let r := reducedP p m
  ((List.range m.length).filter fun j => decide (r.2.getD j (-1) < 0)).map fun j => trim (column p m.length j r.1 r.2)

def gcdP (p : Nat) (f g : List Nat) : List Nat := (gcdLoop p (g.length + 1) f g).getD []

/-- The powers of step modulo f. -/
def powSeq (p : Nat) (f step : List Nat) : Nat → List Nat
  | 0 => [1]
  | j + 1 => remP p (prodP' p (powSeq p f step j) step) f

def fixedCell (p : Nat) (f step : List Nat) (i j : Nat) : Nat :=
  if i = j then ((powSeq p f step j).getD i 0 + p - 1) % p else (powSeq p f step j).getD i 0

def fixedMat (p : Nat) (f : List Nat) : List (List Nat) :=
  (List.range (f.length - 1)).map fun i => (List.range (f.length - 1)).map fun j => fixedCell p f (raiseP p [0, 1] p f) i j

def fixedP (p : Nat) (f : List Nat) : List (List Nat) := kernelP p (fixedMat p f)

def irredP (p : Nat) (f : List Nat) : Bool :=
  if f.length < 2 ∨ 1 < (gcdP p f (deriv p f)).length then false else (fixedP p f).length == 1

def splitOne (p : Nat) (v part : List Nat) : List (List Nat) :=
  let c := gcdP p part v
  if 1 < c.length ∧ c.length < part.length then [c, (divP p part c).1] else [part]

def splitBy (p : Nat) (parts : List (List Nat)) (v : List Nat) : List (List Nat) := parts.flatMap (splitOne p v)

/-- The rounds over s, from s on, n of them; true: the search is over. -/
def splitS (p nb : Nat) (v : List Nat) : Nat → Nat → List (List Nat) → Bool × List (List Nat)
  | 0, _, parts => (false, parts)
  | n + 1, s, parts => if parts.length = nb then (true, parts) else splitS p nb v n (s + 1) (splitBy p parts (difP p v (trim [s])))

def splitV (p nb : Nat) : List (List Nat) → List (List Nat) → List (List Nat)
  | [], parts => parts
  | v :: vs, parts => let r := splitS p nb v p 0 parts; if r.1 then r.2 else splitV p nb vs r.2

def splitP (p : Nat) (f : List Nat) : List (List Nat) := splitV p (fixedP p f).length ((fixedP p f).drop 1) [f]

/-- The parts taken out, each with its exponent. -/
def takeAll (p times : Nat) : List (List Nat) → List Nat → Option (List (List Nat × Nat) × List Nat)
  | [], f => some ([], f)
  | part :: parts, f =>
    match takeOut p part (f.length + 1) 0 f with
    | none => none
    | some (e, f') => match takeAll p times parts f' with
      | none => none
      | some (l, f'') => some ((part, e * times) :: l, f'')

/-- The factors, not yet in order, in at most n rounds. -/
def factLoop (p : Nat) : Nat → Nat → List Nat → Option (List (List Nat × Nat))
  | 0, _, _ => none
  | n + 1, times, f =>
    if f.length ≤ 1 then some []
    else if (deriv p f).length = 0 then factLoop p n (times * p) (rootP p f)
    else match takeAll p times (splitP p (divP p f (gcdP p f (deriv p f))).1) f with
      | none => none
      | some (l, f') => match factLoop p n times f' with
        | none => none
        | some l' => some (l ++ l')

/-- The order of polynomials: the length first, then the numbers, the last one first. -/
def ordP : List Nat → List Nat → Int
  | [], [] => 0
  | [], _ :: _ => -1
  | _ :: _, [] => 1
  | a :: f, b :: g => let c := ordP f g; if c = 0 then (if a < b then -1 else if b < a then 1 else 0) else c

def countP (p : Nat) : Nat → Nat → Int
  | 0, _ => 0
  | k + 1, n => ((List.range (n - 1)).foldl (fun left d => if n % (d + 1) = 0 then left - ((d + 1 : Nat) : Int) * countP p k (d + 1) else left) ((p ^ n : Nat) : Int)) / n

/-- The next polynomial of its degree. -/
def advanceP (p : Nat) : List Nat → List Nat
  | [] => []
  | a :: f => if a = p - 1 then 0 :: advanceP p f else (a + 1) :: f

def firstLoop (p : Nat) : Nat → List Nat → Option (List Nat)
  | 0, _ => none
  | n + 1, f => if irredP p f then some f else firstLoop p n (advanceP p f)

/-! ### The few values that each law asks for -/
theorem awake_prod : prodP' 5 [2, 1] [3, 1] = [1, 0, 1] := by decide +kernel
theorem awake_fact : factLoop 5 3 1 [1, 0, 1] = some [([3, 1], 1), ([2, 1], 1)] ∨ factLoop 5 3 1 [1, 0, 1] = some [([2, 1], 1), ([3, 1], 1)] := by decide +kernel
theorem awake_first : firstLoop 2 9 [0, 0, 0, 1] = some [1, 1, 0, 1] := by decide +kernel
theorem awake_count : countP 2 4 3 = 2 := by decide +kernel

end Go.Proofs.YtgcjdojhfimceaaGreat.Q

namespace Go.Proofs.YtgcjdojhfimceaaGreat.Q

def sm : Nat → (Nat → Int) → Int
  | 0, _ => 0
  | n + 1, F => sm n F + F n

theorem sm_congr {n : Nat} {F G : Nat → Int} (h : ∀ i, i < n → F i = G i) : sm n F = sm n G := by
  induction n with
  | zero => rfl
  | succ n ih => rw [sm, sm, ih fun i hi => h i (by omega), h n (by omega)]

theorem sm_zero {n : Nat} {F : Nat → Int} (h : ∀ i, i < n → F i = 0) : sm n F = 0 := by
  induction n with
  | zero => rfl
  | succ n ih => rw [sm, ih fun i hi => h i (by omega), h n (by omega)]; rfl

theorem sm_add (n : Nat) (F G : Nat → Int) : sm n (fun i => F i + G i) = sm n F + sm n G := by
  induction n with
  | zero => rfl
  | succ n ih => rw [sm, sm, sm, ih]; omega

theorem sm_mul (n : Nat) (c : Int) (F : Nat → Int) : sm n (fun i => c * F i) = c * sm n F := by
  induction n with
  | zero => simp [sm]
  | succ n ih => rw [sm, sm, ih, Int.mul_add]

theorem sm_mul' (n : Nat) (c : Int) (F : Nat → Int) : sm n (fun i => F i * c) = sm n F * c := by
  induction n with
  | zero => simp [sm]
  | succ n ih => rw [sm, sm, ih, Int.add_mul]

theorem sm_head (n : Nat) (F : Nat → Int) : sm (n + 1) F = F 0 + sm n fun i => F (i + 1) := by
  induction n with
  | zero => simp [sm]
  | succ n ih => rw [sm, ih, sm]; omega

theorem sm_rev (n : Nat) (F : Nat → Int) : sm n F = sm n fun i => F (n - 1 - i) := by
  induction n with
  | zero => rfl
  | succ n ih =>
    rw [sm_head n fun i => F (n + 1 - 1 - i), sm, ih]
    have : sm n (fun i => F (n - 1 - i)) = sm n fun i => F (n + 1 - 1 - (i + 1)) := sm_congr fun i _ => by congr 1; omega
    rw [this]
    simp only [Nat.add_sub_cancel, Nat.sub_zero]
    omega

theorem sm_more {n m : Nat} {F : Nat → Int} (h : n ≤ m) (hz : ∀ i, n ≤ i → i < m → F i = 0) : sm m F = sm n F := by
  induction m with
  | zero => obtain rfl : n = 0 := by omega
            rfl
  | succ m ih =>
    rcases Nat.lt_or_ge m n with h1 | h1
    · obtain rfl : n = m + 1 := by omega
      rfl
    · rw [sm, ih h1 fun i h2 h3 => hz i h2 (by omega), hz m h1 (by omega)]; omega

theorem sm_tri (n : Nat) (T : Nat → Nat → Int) : sm n (fun i => sm (i + 1) fun j => T i j) = sm n fun j => sm (n - j) fun k => T (j + k) j := by
  induction n with
  | zero => rfl
  | succ n ih =>
    rw [sm, ih]
    have h1 : sm (n + 1) (fun j => sm (n + 1 - j) fun k => T (j + k) j) = sm (n + 1) fun j => (sm (n - j) fun k => T (j + k) j) + T n j := by
      refine sm_congr fun j hj => ?_
      rw [show n + 1 - j = (n - j) + 1 by omega, sm, show j + (n - j) = n by omega]
    rw [h1, sm_add (n + 1) (fun j => sm (n - j) fun k => T (j + k) j) (fun j => T n j)]
    have h2 : sm (n + 1) (fun j => sm (n - j) fun k => T (j + k) j) = sm n (fun j => sm (n - j) fun k => T (j + k) j) := by
      rw [sm, Nat.sub_self]; simp [sm]
    rw [h2]

/-- The product of sequences. -/
def cau (F G : Nat → Int) (m : Nat) : Int := sm (m + 1) fun i => F i * G (m - i)

theorem cau_comm (F G : Nat → Int) : cau F G = cau G F := by
  funext m
  unfold cau
  rw [sm_rev]
  refine sm_congr fun i hi => ?_
  rw [show m - (m + 1 - 1 - i) = i by omega, show m + 1 - 1 - i = m - i by omega, Int.mul_comm]

theorem cau_assoc (F G H : Nat → Int) : cau (cau F G) H = cau F (cau G H) := by
  funext m
  unfold cau
  have h1 : sm (m + 1) (fun i => (sm (i + 1) fun j => F j * G (i - j)) * H (m - i)) = sm (m + 1) fun i => sm (i + 1) fun j => F j * G (i - j) * H (m - i) :=
    sm_congr fun i _ => (sm_mul' _ _ _).symm
  rw [h1, sm_tri (m + 1) fun i j => F j * G (i - j) * H (m - i)]
  refine sm_congr fun j hj => ?_
  rw [show m + 1 - j = m - j + 1 by omega, ← sm_mul]
  refine sm_congr fun k hk => ?_
  rw [show j + k - j = k by omega, show m - (j + k) = m - j - k by omega, Int.mul_assoc]

theorem cau_add (F G H : Nat → Int) : cau F (fun i => G i + H i) = fun i => cau F G i + cau F H i := by
  funext m
  unfold cau
  rw [← sm_add]
  exact sm_congr fun i _ => Int.mul_add ..

theorem cau_scale (F G : Nat → Int) (c : Int) : cau F (fun i => c * G i) = fun i => c * cau F G i := by
  funext m
  unfold cau
  rw [← sm_mul]
  exact sm_congr fun i _ => by rw [← Int.mul_assoc, Int.mul_comm (F i), Int.mul_assoc]

/-- Equal but for multiples of p. -/
def Eqv (p : Nat) (F G : Nat → Int) : Prop := ∀ i, ∃ k : Int, F i = G i + p * k

theorem Eqv.refl (p : Nat) (F : Nat → Int) : Eqv p F F := fun i => ⟨0, by simp⟩
theorem Eqv.symm {p : Nat} {F G : Nat → Int} (h : Eqv p F G) : Eqv p G F := fun i => by
  obtain ⟨k, hk⟩ := h i; exact ⟨-k, by rw [hk, Int.mul_neg]; omega⟩
theorem Eqv.trans {p : Nat} {F G H : Nat → Int} (h : Eqv p F G) (h' : Eqv p G H) : Eqv p F H := fun i => by
  obtain ⟨k, hk⟩ := h i; obtain ⟨l, hl⟩ := h' i; exact ⟨l + k, by rw [hk, hl, Int.mul_add]; omega⟩
theorem Eqv.of_eq {p : Nat} {F G : Nat → Int} (h : F = G) : Eqv p F G := h ▸ Eqv.refl p F
theorem Eqv.add {p : Nat} {F G F' G' : Nat → Int} (h : Eqv p F F') (h' : Eqv p G G') : Eqv p (fun i => F i + G i) (fun i => F' i + G' i) := fun i => by
  obtain ⟨k, hk⟩ := h i; obtain ⟨l, hl⟩ := h' i; exact ⟨k + l, by simp only [hk, hl, Int.mul_add]; omega⟩
theorem Eqv.scale {p : Nat} {F F' : Nat → Int} (h : Eqv p F F') (c : Int) : Eqv p (fun i => c * F i) (fun i => c * F' i) := fun i => by
  obtain ⟨k, hk⟩ := h i; exact ⟨c * k, by simp only [hk, Int.mul_add]; rw [← Int.mul_assoc, ← Int.mul_assoc, Int.mul_comm c p]⟩
theorem cau_eqv_right {p : Nat} {F G G' : Nat → Int} (h : Eqv p G G') : Eqv p (cau F G) (cau F G') := by
  have hk : ∀ i, ∃ k : Int, G i = G' i + p * k := h
  let K := fun i => Classical.choose (hk i)
  have hK : G = fun i => G' i + (p : Int) * K i := by funext i; exact Classical.choose_spec (hk i)
  intro m
  refine ⟨cau F K m, ?_⟩
  have h1 := congrFun (cau_add F G' fun i => (p : Int) * K i) m
  have h2 := congrFun (cau_scale F K (p : Int)) m
  rw [hK, h1, h2]
theorem cau_eqv {p : Nat} {F F' G G' : Nat → Int} (h : Eqv p F F') (h' : Eqv p G G') : Eqv p (cau F G) (cau F' G') := by
  refine (cau_eqv_right h').trans ?_
  rw [cau_comm F, cau_comm F']
  exact cau_eqv_right h

end Go.Proofs.YtgcjdojhfimceaaGreat.Q

namespace Go.Proofs.YtgcjdojhfimceaaGreat.Q

/-- The coefficients as a sequence. -/
def cf (f : List Nat) (i : Nat) : Int := ((f.getD i 0 : Nat) : Int)

theorem cf_nonneg (f : List Nat) (i : Nat) : 0 ≤ cf f i := Int.natCast_nonneg _
theorem cf_out {f : List Nat} {i : Nat} (h : f.length ≤ i) : cf f i = 0 := by simp [cf, List.getD, h]
theorem getD_out {f : List Nat} {i : Nat} (h : f.length ≤ i) : f.getD i 0 = 0 := by simp [List.getD, h]
theorem getD_get {f : List Nat} {i : Nat} (h : i < f.length) : f.getD i 0 = f[i] := by simp [List.getD, h]

/-- All numbers are below p. -/
def Red (p : Nat) (f : List Nat) : Prop := ∀ x ∈ f, x < p

/-- A polynomial over p: reduced, and the last number is not 0. -/
structure Pol (p : Nat) (f : List Nat) : Prop where
  red : Red p f
  last : trimLen f = f.length

theorem Red.getD {p : Nat} {f : List Nat} (h : Red p f) (hp : 0 < p) (i : Nat) : f.getD i 0 < p := by
  rcases Nat.lt_or_ge i f.length with h1 | h1
  · rw [getD_get h1]; exact h _ (List.getElem_mem h1)
  · rw [getD_out h1]; exact hp

theorem Red.cf {p : Nat} {f : List Nat} (h : Red p f) (hp : 0 < p) (i : Nat) : cf f i < p := by
  have := h.getD hp i; unfold Q.cf; omega

theorem Pol.ne {p : Nat} {f : List Nat} (h : Pol p f) (h0 : f.length ≠ 0) : f.getD (f.length - 1) 0 ≠ 0 := by
  have := trimLen_last f (by rw [h.last]; omega)
  rwa [h.last] at this

theorem Pol.nil (p : Nat) : Pol p [] := ⟨by intro x hx; simp at hx, rfl⟩

theorem trimLen_of {f : List Nat} (h : f.length = 0 ∨ f.getD (f.length - 1) 0 ≠ 0) : trimLen f = f.length :=
  trimLen_eq (fun _ hj => getD_out hj) h

theorem pol_of {p : Nat} {f : List Nat} (h : Red p f) (h2 : f.length = 0 ∨ f.getD (f.length - 1) 0 ≠ 0) : Pol p f := ⟨h, trimLen_of h2⟩

theorem getD_take (f : List Nat) (n i : Nat) : (f.take n).getD i 0 = if i < n then f.getD i 0 else 0 := by
  simp only [List.getD_eq_getElem?_getD, List.getElem?_take]
  split <;> simp

theorem trim_getD (f : List Nat) (i : Nat) : (trim f).getD i 0 = f.getD i 0 := by
  rw [trim, getD_take]
  split
  · rfl
  · next h => rw [trimLen_zero f i (by omega)]

theorem cf_trim (f : List Nat) : cf (trim f) = cf f := by funext i; simp only [cf, trim_getD]

theorem Red.take {p : Nat} {f : List Nat} (h : Red p f) (n : Nat) : Red p (f.take n) := fun x hx => h x (List.mem_of_mem_take hx)

theorem Red.trim {p : Nat} {f : List Nat} (h : Red p f) : Pol p (trim f) := by
  refine pol_of (h.take _) ?_
  rw [trim_length]
  rcases Nat.eq_zero_or_pos (trimLen f) with h0 | h0
  · exact .inl h0
  · right
    rw [trim_getD]
    exact trimLen_last f h0

theorem trim_of_pol {p : Nat} {f : List Nat} (h : Pol p f) : trim f = f := by rw [Q.trim, h.last, List.take_length]

theorem ext_getD {f g : List Nat} (h : f.length = g.length) (hi : ∀ i, i < f.length → f.getD i 0 = g.getD i 0) : f = g := by
  apply List.ext_getElem h
  intro i h1 h2
  have := hi i h1
  rwa [getD_get h1, getD_get h2] at this

/-- Polynomials with the same coefficients are the same. -/
theorem Pol.ext {p : Nat} {f g : List Nat} (hf : Pol p f) (hg : Pol p g) (h : ∀ i, f.getD i 0 = g.getD i 0) : f = g := by
  have h1 : trimLen f = trimLen g := by
    refine (trimLen_eq (n := trimLen g) (fun j hj => by rw [h]; exact trimLen_zero g j hj) ?_)
    rcases Nat.eq_zero_or_pos (trimLen g) with h0 | h0
    · exact .inl h0
    · right; rw [h]; exact trimLen_last g h0
  exact ext_getD (by rw [← hf.last, ← hg.last, h1]) fun i _ => h i

theorem natmod_eqv (p : Nat) (a : Nat) : ∃ k : Int, ((a % p : Nat) : Int) = (a : Int) + p * k := by
  refine ⟨-((a / p : Nat) : Int), ?_⟩
  have := Nat.mod_add_div a p
  rw [Int.mul_neg]
  have h2 : (a : Int) = ((a % p : Nat) : Int) + (p : Int) * ((a / p : Nat) : Int) := by exact_mod_cast this.symm
  omega

/-- Reduced numbers that are equal but for a multiple of p are equal. -/
theorem eq_of_eqv {p a b : Nat} (ha : a < p) (hb : b < p) (h : ∃ k : Int, (a : Int) = b + p * k) : a = b := by
  obtain ⟨k, hk⟩ := h
  rcases Int.lt_trichotomy k 0 with h0 | h0 | h0
  · have : (p : Int) * k ≤ (p : Int) * (-1) := Int.mul_le_mul_of_nonneg_left (by omega) (by omega)
    omega
  · subst h0; omega
  · have : (p : Int) * 1 ≤ (p : Int) * k := Int.mul_le_mul_of_nonneg_left (by omega) (by omega)
    omega

theorem Pol.ext_eqv {p : Nat} {f g : List Nat} (hp : 0 < p) (hf : Pol p f) (hg : Pol p g) (h : Eqv p (cf f) (cf g)) : f = g :=
  hf.ext hg fun i => eq_of_eqv (hf.red.getD hp i) (hg.red.getD hp i) (h i)

/-! ### Sums and differences -/
theorem comb_getD (J : Nat → Nat → Nat) (hJ : J 0 0 = 0) (f g : List Nat) (i : Nat) : (comb J f g).getD i 0 = J (f.getD i 0) (g.getD i 0) := by
  rcases Nat.lt_or_ge i (comb J f g).length with h | h
  · rw [getD_get h, comb_get]
  · rw [getD_out h, getD_out, getD_out, hJ]
    · rw [comb_length] at h; omega
    · rw [comb_length] at h; omega

theorem comb_red {p : Nat} {J : Nat → Nat → Nat} (h : ∀ a b, J a b < p) (f g : List Nat) : Red p (comb J f g) := by
  intro x hx
  obtain ⟨i, _, rfl⟩ := List.mem_map.1 hx
  exact h _ _

theorem pol_sum {p : Nat} (hp : 0 < p) (f g : List Nat) : Pol p (sumP p f g) := (comb_red (fun _ _ => Nat.mod_lt _ hp) f g).trim
theorem pol_dif {p : Nat} (hp : 0 < p) (f g : List Nat) : Pol p (difP p f g) := (comb_red (fun _ _ => Nat.mod_lt _ hp) f g).trim

theorem sum_getD (p : Nat) (f g : List Nat) (i : Nat) : (sumP p f g).getD i 0 = (f.getD i 0 + g.getD i 0) % p := by
  rw [sumP, trim_getD, comb_getD _ (by simp)]

theorem dif_getD (p : Nat) (f g : List Nat) (i : Nat) : (difP p f g).getD i 0 = (f.getD i 0 + p - g.getD i 0) % p := by
  rw [difP, trim_getD, comb_getD _ (by simp)]

theorem sum_eqv (p : Nat) (f g : List Nat) : Eqv p (cf (sumP p f g)) fun i => cf f i + cf g i := fun i => by
  obtain ⟨k, hk⟩ := natmod_eqv p (f.getD i 0 + g.getD i 0)
  exact ⟨k, by simp only [cf, sum_getD]; rw [hk]; omega⟩

theorem dif_eqv {p : Nat} (hp : 0 < p) (f : List Nat) {g : List Nat} (hg : Red p g) : Eqv p (cf (difP p f g)) fun i => cf f i + (-1) * cf g i := fun i => by
  obtain ⟨k, hk⟩ := natmod_eqv p (f.getD i 0 + p - g.getD i 0)
  have := hg.getD hp i
  refine ⟨k + 1, ?_⟩
  simp only [cf, dif_getD]
  rw [hk, Int.mul_add]
  omega

/-! ### Products -/
theorem conv_sm (f g : List Nat) (m n : Nat) : ((conv f g m n : Nat) : Int) = sm n fun i => if i ≤ m then cf f i * cf g (m - i) else 0 := by
  induction n with
  | zero => rfl
  | succ n ih =>
    rw [conv, sm, ← ih]
    simp only [cf]
    split <;> simp

theorem conv_cau (f g : List Nat) (m : Nat) : ((conv f g m f.length : Nat) : Int) = cau (cf f) (cf g) m := by
  rw [conv_sm]
  have h1 : sm (max f.length (m + 1)) (fun i => if i ≤ m then cf f i * cf g (m - i) else 0) = sm f.length fun i => if i ≤ m then cf f i * cf g (m - i) else 0 :=
    sm_more (by omega) fun i h1 h2 => by rw [cf_out h1]; simp
  have h2 : sm (max f.length (m + 1)) (fun i => if i ≤ m then cf f i * cf g (m - i) else 0) = sm (m + 1) fun i => if i ≤ m then cf f i * cf g (m - i) else 0 :=
    sm_more (by omega) fun i h1 h2 => by rw [if_neg (by omega)]
  rw [← h1, h2]
  exact sm_congr fun i hi => by rw [if_pos (by omega)]

theorem cau_out {f g : List Nat} {m : Nat} (h : f.length = 0 ∨ g.length = 0 ∨ f.length + g.length - 1 ≤ m) : cau (cf f) (cf g) m = 0 := by
  refine sm_zero fun i hi => ?_
  rcases Nat.lt_or_ge i f.length with h1 | h1
  · rw [cf_out (f := g) (by omega)]; simp
  · rw [cf_out h1]; simp

theorem prod_getD (p : Nat) (f g : List Nat) (m : Nat) : (((prodP' p f g).getD m 0 : Nat) : Int) = (cau (cf f) (cf g) m) % p := by
  by_cases h0 : f.length = 0 ∨ g.length = 0
  · rw [prod_nil h0, cau_out (by omega)]; simp
  · rcases Nat.lt_or_ge m (f.length + g.length - 1) with h1 | h1
    · have hl : (prodP' p f g).length = f.length + g.length - 1 := prod_length (by omega) (by omega)
      rw [getD_get (by omega)]
      have : (prodP' p f g)[m]'(by omega) = conv f g m f.length % p := by
        have e : prodP' p f g = (List.range (f.length + g.length - 1)).map fun m => conv f g m f.length % p := by rw [prodP', if_neg h0]
        simp only [e, List.getElem_map, List.getElem_range]
      rw [this, ← conv_cau]
      rfl
    · rw [getD_out (by rw [prod_length (by omega) (by omega)]; exact h1), cau_out (by omega)]; simp

theorem prod_eqv (p : Nat) (f g : List Nat) : Eqv p (cf (prodP' p f g)) (cau (cf f) (cf g)) := fun i => by
  refine ⟨-(cau (cf f) (cf g) i / p), ?_⟩
  simp only [cf]
  rw [prod_getD]
  have := Int.emod_add_mul_ediv (cau (cf f) (cf g) i) p
  rw [Int.mul_neg]
  omega

theorem red_prod {p : Nat} (hp : 0 < p) (f g : List Nat) : Red p (prodP' p f g) := by
  intro x hx
  by_cases h0 : f.length = 0 ∨ g.length = 0
  · rw [prod_nil h0] at hx; simp at hx
  · rw [prodP', if_neg h0] at hx
    obtain ⟨m, _, rfl⟩ := List.mem_map.1 hx
    exact Nat.mod_lt _ hp

/-- No two numbers below p but 0 have a product that p divides. -/
def Fld (p : Nat) : Prop := 2 ≤ p ∧ ∀ a b, a < p → b < p → a * b % p = 0 → a = 0 ∨ b = 0

theorem cau_top {f g : List Nat} (hf : f.length ≠ 0) (hg : g.length ≠ 0) : cau (cf f) (cf g) (f.length + g.length - 2) = cf f (f.length - 1) * cf g (g.length - 1) := by
  unfold cau
  obtain ⟨a, ha⟩ : ∃ a, f.length = a + 1 := ⟨f.length - 1, by omega⟩
  have h1 : sm (f.length + g.length - 2 + 1) (fun i => cf f i * cf g (f.length + g.length - 2 - i)) = sm (a + 1) fun i => cf f i * cf g (f.length + g.length - 2 - i) :=
    sm_more (by omega) fun i h1 h2 => by rw [cf_out (f := f) (by omega)]; simp
  rw [h1, sm, sm_zero fun i hi => by rw [cf_out (f := g) (by omega)]; simp]
  rw [ha, show a + 1 + g.length - 2 - a = g.length - 1 by omega]
  simp

theorem prod_last {p : Nat} (hF : Fld p) {f g : List Nat} (hf : Pol p f) (hg : Pol p g) : Pol p (prodP' p f g) := by
  have hp : 0 < p := by have := hF.1; omega
  refine pol_of (red_prod hp f g) ?_
  by_cases h0 : f.length = 0 ∨ g.length = 0
  · rw [prod_nil h0]; exact .inl rfl
  · right
    rw [prod_length (by omega) (by omega), show f.length + g.length - 1 - 1 = f.length + g.length - 2 by omega]
    intro h1
    have h2 := prod_getD p f g (f.length + g.length - 2)
    rw [h1, cau_top (by omega) (by omega)] at h2
    have h3 : f.getD (f.length - 1) 0 * g.getD (g.length - 1) 0 % p = 0 := by
      simp only [cf] at h2
      exact_mod_cast h2.symm
    rcases hF.2 _ _ (hf.red.getD hp _) (hg.red.getD hp _) h3 with h4 | h4
    · exact hf.ne (by omega) h4
    · exact hg.ne (by omega) h4

/-! ### The laws of the ring -/
variable {p : Nat}

theorem sum_comm (f g : List Nat) : sumP p f g = sumP p g f := by
  have : comb (fun a b => (a + b) % p) f g = comb (fun a b => (a + b) % p) g f := by
    unfold comb
    rw [Nat.max_comm]
    exact List.map_congr_left fun i _ => by show (_ + _) % p = _; rw [Nat.add_comm]
  rw [sumP, sumP, this]

theorem prod_comm' (f g : List Nat) : prodP' p f g = prodP' p g f := by
  refine ext_getD ?_ fun i _ => ?_
  · by_cases h0 : f.length = 0 ∨ g.length = 0
    · rw [prod_nil h0, prod_nil h0.symm]
    · rw [prod_length (by omega) (by omega), prod_length (by omega) (by omega)]; omega
  · have h1 := prod_getD p f g i
    have h2 := prod_getD p g f i
    rw [cau_comm] at h1
    omega

theorem prod_assoc (hF : Fld p) {f g h : List Nat} (hf : Pol p f) (hg : Pol p g) (hh : Pol p h) : prodP' p (prodP' p f g) h = prodP' p f (prodP' p g h) := by
  have hp : 0 < p := by have := hF.1; omega
  refine (prod_last hF (prod_last hF hf hg) hh).ext_eqv hp (prod_last hF hf (prod_last hF hg hh)) ?_
  refine (prod_eqv p _ _).trans ((cau_eqv (prod_eqv p f g) (Eqv.refl p _)).trans ?_)
  rw [cau_assoc]
  exact ((prod_eqv p _ _).trans (cau_eqv_right (prod_eqv p g h))).symm

theorem prod_sum (hF : Fld p) {f g h : List Nat} (hh : Pol p h) : prodP' p (sumP p f g) h = sumP p (prodP' p f h) (prodP' p g h) := by
  have hp : 0 < p := by have := hF.1; omega
  refine (prod_last hF (pol_sum hp f g) hh).ext_eqv hp (pol_sum hp _ _) ?_
  refine (prod_eqv p _ _).trans ((cau_eqv (sum_eqv p f g) (Eqv.refl p _)).trans ?_)
  rw [cau_comm, cau_add, cau_comm (cf h), cau_comm (cf h)]
  exact ((sum_eqv p _ _).trans ((prod_eqv p f h).add (prod_eqv p g h))).symm

end Go.Proofs.YtgcjdojhfimceaaGreat.Q

namespace Go.Proofs.YtgcjdojhfimceaaGreat.Q
open M (Pr not_dvd_of_lt exists_inv)

def stP (p : Nat) : Setoid (Nat → Int) := ⟨Eqv p, ⟨Eqv.refl p, Eqv.symm, Eqv.trans⟩⟩
def Px (p : Nat) : Type := Quotient (stP p)
def Px.of (p : Nat) (F : Nat → Int) : Px p := Quotient.mk (stP p) F

variable {p : Nat}

theorem Px.eq {F G : Nat → Int} (h : Eqv p F G) : Px.of p F = Px.of p G := Quotient.sound (s := stP p) h
theorem Px.eqv {F G : Nat → Int} (h : Px.of p F = Px.of p G) : Eqv p F G := Quotient.exact (s := stP p) h

instance : Add (Px p) := ⟨Quotient.lift₂ (s₁ := stP p) (s₂ := stP p) (fun F G => Px.of p fun i => F i + G i) fun _ _ _ _ h h' => Px.eq (Eqv.add h h')⟩
instance : Mul (Px p) := ⟨Quotient.lift₂ (s₁ := stP p) (s₂ := stP p) (fun F G => Px.of p (cau F G)) fun _ _ _ _ h h' => Px.eq (cau_eqv h h')⟩
instance : Neg (Px p) := ⟨Quotient.lift (s := stP p) (fun F => Px.of p fun i => (-1) * F i) fun _ _ h => Px.eq (Eqv.scale h _)⟩
instance : Zero (Px p) := ⟨Px.of p fun _ => 0⟩
instance : One (Px p) := ⟨Px.of p fun i => if i = 0 then 1 else 0⟩
instance : Sub (Px p) := ⟨fun a b => a + -b⟩

theorem Px.add_of (F G : Nat → Int) : Px.of p F + Px.of p G = Px.of p fun i => F i + G i := rfl
theorem Px.mul_of (F G : Nat → Int) : Px.of p F * Px.of p G = Px.of p (cau F G) := rfl
theorem Px.neg_of (F : Nat → Int) : -Px.of p F = Px.of p fun i => (-1) * F i := rfl
theorem Px.zero_of : (0 : Px p) = Px.of p fun _ => 0 := rfl
theorem Px.one_of : (1 : Px p) = Px.of p fun i => if i = 0 then 1 else 0 := rfl
theorem Px.sub_def (a b : Px p) : a - b = a + -b := rfl

theorem Px.ind (a : Px p) : ∃ F, a = Px.of p F := by
  obtain ⟨F, hF⟩ := Quotient.exists_rep a
  exact ⟨F, hF.symm⟩

theorem Px.add_comm (a b : Px p) : a + b = b + a := by
  obtain ⟨F, rfl⟩ := a.ind; obtain ⟨G, rfl⟩ := b.ind
  rw [add_of, add_of]; congr 1; funext i; exact Int.add_comm ..
theorem Px.add_assoc (a b c : Px p) : a + b + c = a + (b + c) := by
  obtain ⟨F, rfl⟩ := a.ind; obtain ⟨G, rfl⟩ := b.ind; obtain ⟨H, rfl⟩ := c.ind
  simp only [add_of]; congr 1; funext i; exact Int.add_assoc ..
theorem Px.mul_comm (a b : Px p) : a * b = b * a := by
  obtain ⟨F, rfl⟩ := a.ind; obtain ⟨G, rfl⟩ := b.ind
  rw [mul_of, mul_of, cau_comm]
theorem Px.mul_assoc (a b c : Px p) : a * b * c = a * (b * c) := by
  obtain ⟨F, rfl⟩ := a.ind; obtain ⟨G, rfl⟩ := b.ind; obtain ⟨H, rfl⟩ := c.ind
  simp only [mul_of, cau_assoc]
theorem Px.mul_add (a b c : Px p) : a * (b + c) = a * b + a * c := by
  obtain ⟨F, rfl⟩ := a.ind; obtain ⟨G, rfl⟩ := b.ind; obtain ⟨H, rfl⟩ := c.ind
  simp only [mul_of, add_of, cau_add]
theorem Px.add_mul (a b c : Px p) : (a + b) * c = a * c + b * c := by rw [mul_comm, mul_add, mul_comm c, mul_comm c]
theorem Px.zero_add (a : Px p) : 0 + a = a := by
  obtain ⟨F, rfl⟩ := a.ind
  rw [zero_of, add_of]; congr 1; funext i; exact Int.zero_add ..
theorem Px.add_zero (a : Px p) : a + 0 = a := by rw [add_comm, zero_add]
theorem Px.add_neg (a : Px p) : a + -a = 0 := by
  obtain ⟨F, rfl⟩ := a.ind
  rw [neg_of, add_of, zero_of]; congr 1; funext i; omega
theorem Px.neg_add (a : Px p) : -a + a = 0 := by rw [add_comm, add_neg]
theorem Px.one_mul (a : Px p) : 1 * a = a := by
  obtain ⟨F, rfl⟩ := a.ind
  rw [one_of, mul_of]; congr 1; funext m
  unfold cau
  rw [sm_head, sm_zero fun i _ => by simp]
  simp
theorem Px.mul_one (a : Px p) : a * 1 = a := by rw [mul_comm, one_mul]

instance : Std.Commutative (α := Px p) (· + ·) := ⟨Px.add_comm⟩
instance : Std.Associative (α := Px p) (· + ·) := ⟨Px.add_assoc⟩
instance : Std.Commutative (α := Px p) (· * ·) := ⟨Px.mul_comm⟩
instance : Std.Associative (α := Px p) (· * ·) := ⟨Px.mul_assoc⟩

theorem Px.add_cancel {a b c : Px p} (h : a + c = b + c) : a = b := by
  have := congrArg (· + -c) h
  simpa only [add_assoc, add_neg, add_zero] using this
theorem Px.zero_mul (a : Px p) : 0 * a = 0 := by
  apply add_cancel (c := 0 * a)
  rw [← add_mul, zero_add, zero_add]
theorem Px.mul_zero (a : Px p) : a * 0 = 0 := by rw [mul_comm, zero_mul]
theorem Px.neg_eq {a b : Px p} (h : a + b = 0) : b = -a := by
  apply add_cancel (c := a); rw [neg_add, add_comm]; exact h
theorem Px.neg_neg (a : Px p) : - -a = a := (neg_eq (neg_add a)).symm
theorem Px.neg_zero : -(0 : Px p) = 0 := (neg_eq (zero_add 0)).symm
theorem Px.mul_neg (a b : Px p) : a * -b = -(a * b) := neg_eq (by rw [← mul_add, add_neg, mul_zero])
theorem Px.neg_mul (a b : Px p) : -a * b = -(a * b) := by rw [mul_comm, mul_neg, mul_comm]
theorem Px.neg_add_rev (a b : Px p) : -(a + b) = -a + -b := (neg_eq (by
  rw [show a + b + (-a + -b) = (a + -a) + (b + -b) by ac_rfl, add_neg, add_neg, add_zero])).symm
theorem Px.sub_self (a : Px p) : a - a = 0 := add_neg a
theorem Px.sub_zero (a : Px p) : a - 0 = a := by rw [sub_def, neg_zero, add_zero]
theorem Px.mul_sub (a b c : Px p) : a * (b - c) = a * b - a * c := by rw [sub_def, mul_add, mul_neg, sub_def]
theorem Px.sub_mul (a b c : Px p) : (a - b) * c = a * c - b * c := by rw [sub_def, add_mul, neg_mul, sub_def]
theorem Px.sub_eq_iff {a b c : Px p} : a - b = c ↔ a = b + c := by
  constructor
  · rintro rfl; rw [sub_def, show b + (a + -b) = a + (b + -b) by ac_rfl, add_neg, add_zero]
  · rintro rfl; rw [sub_def, show b + c + -b = c + (b + -b) by ac_rfl, add_neg, add_zero]
theorem Px.sub_eq_zero {a b : Px p} : a - b = 0 ↔ a = b := by rw [sub_eq_iff, add_zero]

/-! ### Lists in the ring -/
def ev (p : Nat) (f : List Nat) : Px p := Px.of p (cf f)

theorem ev_inj (hp : 0 < p) {f g : List Nat} (hf : Pol p f) (hg : Pol p g) (h : ev p f = ev p g) : f = g := hf.ext_eqv hp hg (Px.eqv h)
theorem ev_sum (f g : List Nat) : ev p (sumP p f g) = ev p f + ev p g := Px.eq (sum_eqv p f g)
theorem ev_dif (hp : 0 < p) (f : List Nat) {g : List Nat} (hg : Red p g) : ev p (difP p f g) = ev p f - ev p g := Px.eq (dif_eqv hp f hg)
theorem ev_prod (f g : List Nat) : ev p (prodP' p f g) = ev p f * ev p g := Px.eq (prod_eqv p f g)
theorem ev_nil : ev p [] = 0 := Px.eq (Eqv.of_eq (by funext i; simp [cf]))
theorem ev_trim (f : List Nat) : ev p (trim f) = ev p f := by unfold ev; rw [cf_trim]
theorem ev_one : ev p [1] = 1 := Px.eq (Eqv.of_eq (by funext i; rcases i with _ | i <;> simp [cf]))
theorem ev_zero_iff (hp : 0 < p) {f : List Nat} (hf : Pol p f) : ev p f = 0 ↔ f = [] := by
  rw [← ev_nil]
  exact ⟨fun h => ev_inj hp hf (Pol.nil p) h, fun h => by rw [h]⟩

/-! ### The field -/
theorem fld_of {p : Nat} (h : Pr p) : Fld p := by
  refine ⟨h.1, fun a b ha hb hab => ?_⟩
  rcases h.dvd_mul (Nat.dvd_of_mod_eq_zero hab) with h1 | h1
  · left; exact Nat.eq_zero_of_dvd_of_lt h1 ha
  · right; exact Nat.eq_zero_of_dvd_of_lt h1 hb

theorem inv_spec {a : Nat} (h : Pr p) (ha : a < p) (h0 : a ≠ 0) : invM p a < p ∧ a * invM p a % p = 1 ∧ invM p a ≠ 0 := by
  have hp := h.1
  have hc : Nat.gcd (a : Int).toNat (p : Int).toNat = 1 := by
    have := h.cop (a := a) (not_dvd_of_lt (by omega) ha)
    rw [Int.toNat_natCast, Int.toNat_natCast, Nat.gcd_comm]; exact this
  obtain ⟨i, hi0, him, hi⟩ := exists_inv (a := (a : Int)) (m := (p : Int)) (by omega) (by omega) hc
  obtain ⟨j, rfl⟩ := Int.eq_ofNat_of_zero_le hi0
  have hj : a * j % p = 1 % p := by exact_mod_cast hi
  have h1 : 1 % p = 1 := Nat.mod_eq_of_lt (by omega)
  have hs : ∃ k, (List.range p).find? (fun i => a * i % p == 1 % p) = some k := by
    cases hf : (List.range p).find? (fun i => a * i % p == 1 % p) with
    | some k => exact ⟨k, rfl⟩
    | none =>
      have := List.find?_eq_none.1 hf j (List.mem_range.2 (by omega))
      simp [hj] at this
  obtain ⟨k, hk⟩ := hs
  have e : invM p a = k := by rw [invM, hk]; rfl
  have hk2 := List.mem_range.1 (List.mem_of_find?_eq_some hk)
  have hk3 := List.find?_some hk
  simp at hk3
  rw [e]
  refine ⟨hk2, by omega, ?_⟩
  rintro rfl
  rw [Nat.mul_zero, Nat.zero_mod] at hk3
  omega

end Go.Proofs.YtgcjdojhfimceaaGreat.Q

namespace Go.Proofs.YtgcjdojhfimceaaGreat.Q
open M (Pr)
variable {p : Nat}

def mono (p : Nat) (c : Int) (i : Nat) : Px p := Px.of p fun k => if k = i then c else 0
def shf (p : Nat) (i : Nat) (q : List Nat) : Px p := Px.of p fun k => if k < i then 0 else cf q (k - i)

theorem cau_mono (c : Int) (i : Nat) (G : Nat → Int) (k : Nat) : cau (fun k => if k = i then c else 0) G k = if i ≤ k then c * G (k - i) else 0 := by
  unfold cau
  split
  · next h =>
    have h1 : sm (k + 1) (fun j => (if j = i then c else 0) * G (k - j)) = sm (i + 1) fun j => (if j = i then c else 0) * G (k - j) :=
      sm_more (by omega) fun j h1 _ => by rw [if_neg (by omega), Int.zero_mul]
    rw [h1, sm, sm_zero fun j hj => by rw [if_neg (by omega), Int.zero_mul]]
    simp
  · next h => exact sm_zero fun j hj => by show (if j = i then c else 0) * _ = 0; rw [if_neg (by omega), Int.zero_mul]

theorem shf_zero (q : List Nat) : shf p 0 q = ev p q := by
  unfold shf ev; congr 1

theorem shf_cons (i c : Nat) (q : List Nat) : shf p i (c :: q) = mono p c i + shf p (i + 1) q := by
  rw [mono, shf, shf, Px.add_of]
  congr 1
  funext k
  rcases Nat.lt_trichotomy k i with h | h | h
  · rw [if_pos h, if_neg (by omega), if_pos (by omega)]; rfl
  · subst h; rw [if_neg (by omega), if_pos rfl, if_pos (by omega), Nat.sub_self]; simp [cf]
  · rw [if_neg (by omega), if_neg (by omega), if_neg (by omega), show k - i = k - (i + 1) + 1 by omega]; simp [cf]

theorem takeAway_getD (c i : Nat) (g rest : List Nat) (k : Nat) (hl : i + g.length ≤ rest.length) :
    (takeAway p c i g rest).getD k 0 = if i ≤ k ∧ k < i + g.length then (rest.getD k 0 + (p - c) * g.getD (k - i) 0) % p else rest.getD k 0 := by
  rcases Nat.lt_or_ge k rest.length with h | h
  · rw [getD_get (by rw [takeAway_length]; exact h), getD_get h]
    simp [takeAway]
  · rw [getD_out (by rw [takeAway_length]; exact h), getD_out h, if_neg (by omega)]

theorem takeAway_red (hp : 0 < p) {c i : Nat} {g rest : List Nat} (h : Red p rest) : Red p (takeAway p c i g rest) := by
  intro x hx
  unfold takeAway at hx
  rw [List.mem_mapIdx] at hx
  obtain ⟨k, hk, rfl⟩ := hx
  split
  · exact Nat.mod_lt _ hp
  · exact h _ (List.getElem_mem hk)

theorem takeAway_ev {c i : Nat} {g rest : List Nat} (hc : c ≤ p) (hl : i + g.length ≤ rest.length) : ev p rest = ev p (takeAway p c i g rest) + mono p c i * ev p g := by
  unfold ev mono
  rw [Px.mul_of, Px.add_of]
  refine Px.eq fun k => ?_
  rw [cau_mono]
  simp only [cf]
  rw [takeAway_getD c i g rest k hl]
  by_cases h1 : i ≤ k
  · rw [if_pos h1]
    by_cases h2 : k < i + g.length
    · rw [if_pos ⟨h1, h2⟩]
      obtain ⟨m, hm⟩ := natmod_eqv p (rest.getD k 0 + (p - c) * g.getD (k - i) 0)
      rw [hm]
      refine ⟨-(m + (g.getD (k - i) 0 : Nat)), ?_⟩
      obtain ⟨d, rfl⟩ : ∃ d, p = c + d := ⟨p - c, by omega⟩
      rw [show c + d - c = d by omega]
      simp only [Int.natCast_add, Int.natCast_mul, Int.mul_neg, Int.mul_add, Int.add_mul]
      omega
    · rw [if_neg (by omega)]
      refine ⟨0, ?_⟩
      rw [getD_out (f := g) (by omega)]; simp
  · rw [if_neg (by omega), if_neg h1]
    exact ⟨0, by simp⟩

structure DivOk (p : Nat) (g rest q rest' q' : List Nat) (i : Nat) : Prop where
  val : ev p rest + shf p i q * ev p g = ev p rest' + ev p q' * ev p g
  len : rest'.length = rest.length
  red : Red p rest'
  top : ∀ k, g.length - 1 ≤ k → rest'.getD k 0 = 0
  more : ∃ l, q' = l ++ q ∧ l.length = i ∧ Red p l

theorem divLoop_ok (hp : 2 ≤ p) {inv : Nat} {g : List Nat} (hg : g.length ≠ 0) (hgr : Red p g) (hinv : g.getD (g.length - 1) 0 * inv % p = 1) :
    ∀ (i : Nat) (rest q : List Nat), Red p rest → i + (g.length - 1) ≤ rest.length → (∀ k, i + (g.length - 1) ≤ k → rest.getD k 0 = 0) →
      DivOk p g rest q (divLoop p inv g i rest q).1 (divLoop p inv g i rest q).2 i
  | 0, rest, q, hr, hl, hz => ⟨by rw [divLoop, shf_zero], rfl, hr, fun k hk => hz k (by omega), [], rfl, rfl, fun x hx => by simp at hx⟩
  | i + 1, rest, q, hr, hl, hz => by
    rw [divLoop]
    obtain ⟨c, hc⟩ : ∃ c, rest.getD (i + (g.length - 1)) 0 * inv % p = c := ⟨_, rfl⟩
    obtain ⟨r2, hr2⟩ : ∃ r2, (if c = 0 then rest else takeAway p c i g rest) = r2 := ⟨_, rfl⟩
    have hcl : c < p := by rw [← hc]; exact Nat.mod_lt _ (by omega)
    simp only [hc, hr2]
    have hlen : i + g.length ≤ rest.length := by omega
    have htop : rest.getD (i + (g.length - 1)) 0 < p := hr.getD (by omega) _
    have hg1 := hgr.getD (p := p) (by omega) (g.length - 1)
    have hr2l : r2.length = rest.length := by
      rw [← hr2]
      split
      · rfl
      · exact takeAway_length ..
    have hr2r : Red p r2 := by
      rw [← hr2]
      split
      · exact hr
      · exact takeAway_red (by omega) hr
    have hev : ev p rest = ev p r2 + mono p c i * ev p g := by
      rw [← hr2]
      split
      · next h0 =>
        subst h0
        have : mono p ((0 : Nat) : Int) i = 0 := by unfold mono; rw [Px.zero_of]; congr 1; funext k; split <;> rfl
        rw [this, Px.zero_mul, Px.add_zero]
      · exact takeAway_ev (by omega) hlen
    -- the top number becomes 0
    have hkey : (rest.getD (i + (g.length - 1)) 0 + (p - c) * g.getD (g.length - 1) 0) % p = 0 := by
      generalize rest.getD (i + (g.length - 1)) 0 = t at hc htop ⊢
      generalize g.getD (g.length - 1) 0 = b at hinv hg1 ⊢
      have h1 : c * b % p = t % p := by
        rw [← hc, Nat.mod_mul_mod, Nat.mul_assoc, Nat.mul_comm inv b, ← Nat.mul_mod_mod, hinv, Nat.mul_one]
      have h2 : (t + (p - c) * b) % p = (c * b + (p - c) * b) % p := by
        rw [Nat.add_mod, ← h1, ← Nat.add_mod]
      rw [h2, ← Nat.add_mul, show c + (p - c) = p by omega, Nat.mul_mod_right]
    have hz2 : ∀ k, i + (g.length - 1) ≤ k → r2.getD k 0 = 0 := by
      intro k hk
      rw [← hr2]
      by_cases hkt : k = i + (g.length - 1)
      · subst hkt
        split
        · next h0 =>
          rw [h0, Nat.sub_zero, Nat.add_mul_mod_self_left, Nat.mod_eq_of_lt htop] at hkey
          exact hkey
        · rw [takeAway_getD _ _ _ _ _ hlen, if_pos (by omega), show i + (g.length - 1) - i = g.length - 1 by omega]
          exact hkey
      · split
        · exact hz k (by omega)
        · rw [takeAway_getD _ _ _ _ _ hlen, if_neg (by omega)]; exact hz k (by omega)
    have ih := divLoop_ok hp hg hgr hinv i r2 (c :: q) hr2r (by omega) hz2
    refine ⟨?_, by rw [ih.len, hr2l], ih.red, ih.top, ?_⟩
    · rw [← ih.val, shf_cons, hev, Px.add_mul]; ac_rfl
    · obtain ⟨l, h1, h2, h3⟩ := ih.more
      refine ⟨l ++ [c], by rw [h1]; simp, by simp [h2], fun x hx => ?_⟩
      rcases List.mem_append.1 hx with h4 | h4
      · exact h3 x h4
      · rw [List.mem_singleton.1 h4]; exact hcl

structure DivIs (p : Nat) (f g q r : List Nat) : Prop where
  val : ev p f = ev p q * ev p g + ev p r
  qpol : Pol p q
  rpol : Pol p r
  rlen : r.length < g.length
  qlen : q.length = f.length - (g.length - 1)

theorem div_is (hP : Pr p) {f g : List Nat} (hf : Pol p f) (hg : Pol p g) (hg0 : g.length ≠ 0) : DivIs p f g (divP p f g).1 (divP p f g).2 := by
  have hp := hP.1
  rw [divP]
  split
  · next h => exact ⟨by rw [ev_nil, Px.zero_mul, Px.zero_add], Pol.nil p, hf, h, by simp; omega⟩
  · next h =>
    have hgl := hg.red.getD (p := p) (by omega) (g.length - 1)
    have hinv := inv_spec hP hgl (hg.ne hg0)
    obtain ⟨inv, hi⟩ : ∃ inv, invM p (g.getD (g.length - 1) 0) = inv := ⟨_, rfl⟩
    rw [hi] at hinv ⊢
    have D := divLoop_ok hp hg0 hg.red hinv.2.1 (f.length - (g.length - 1)) f [] hf.red (by omega) (fun k hk => getD_out (by omega))
    obtain ⟨l, h1, h2, h3⟩ := D.more
    have hsh : shf p (f.length - (g.length - 1)) [] = 0 := by
      unfold shf; rw [Px.zero_of]; congr 1; funext k; simp [cf]
    have hrl : ∀ k, (((divLoop p inv g (f.length - (g.length - 1)) f []).1.take (g.length - 1)).getD k 0) = (divLoop p inv g (f.length - (g.length - 1)) f []).1.getD k 0 := by
      intro k; rw [getD_take]; split
      · rfl
      · rw [D.top k (by omega)]
    have hev : ev p ((divLoop p inv g (f.length - (g.length - 1)) f []).1.take (g.length - 1)) = ev p (divLoop p inv g (f.length - (g.length - 1)) f []).1 := by
      unfold ev; congr 1; funext k; simp only [cf, hrl]
    refine ⟨?_, ?_, (D.red.take _).trim, ?_, ?_⟩
    · have := D.val
      rw [hsh, Px.zero_mul, Px.add_zero] at this
      rw [this, ev_trim, hev, Px.add_comm]
    · rw [List.append_nil] at h1
      refine pol_of (by show Red p (divLoop p inv g (f.length - (g.length - 1)) f []).2; rw [h1]; exact h3) ?_
      right
      show (divLoop p inv g (f.length - (g.length - 1)) f []).2.getD ((divLoop p inv g (f.length - (g.length - 1)) f []).2.length - 1) 0 ≠ 0
      -- the number that is found first
      obtain ⟨i, hi2⟩ : ∃ i, f.length - (g.length - 1) = i + 1 := ⟨f.length - (g.length - 1) - 1, by omega⟩
      rw [hi2, divLoop]
      obtain ⟨c, hc⟩ : ∃ c, f.getD (i + (g.length - 1)) 0 * inv % p = c := ⟨_, rfl⟩
      have hft := hf.red.getD (p := p) (by omega) (i + (g.length - 1))
      have hfn : f.getD (i + (g.length - 1)) 0 ≠ 0 := by rw [show i + (g.length - 1) = f.length - 1 by omega]; exact hf.ne (by omega)
      have hc0 : c ≠ 0 := by
        rintro rfl
        rcases (fld_of hP).2 _ _ hft hinv.1 hc with h5 | h5
        · exact hfn h5
        · exact hinv.2.2 h5
      simp only [hc, if_neg hc0]
      have hlen : i + g.length ≤ f.length := by omega
      have hkey : (f.getD (i + (g.length - 1)) 0 + (p - c) * g.getD (g.length - 1) 0) % p = 0 := by
        generalize f.getD (i + (g.length - 1)) 0 = t at hc hft ⊢
        generalize g.getD (g.length - 1) 0 = b at hinv hgl ⊢
        have hcl : c < p := by rw [← hc]; exact Nat.mod_lt _ (by omega)
        have h1 : c * b % p = t % p := by
          rw [← hc, Nat.mod_mul_mod, Nat.mul_assoc, Nat.mul_comm inv b, ← Nat.mul_mod_mod, hinv.2.1, Nat.mul_one]
        have h2 : (t + (p - c) * b) % p = (c * b + (p - c) * b) % p := by
          rw [Nat.add_mod, ← h1, ← Nat.add_mod]
        rw [h2, ← Nat.add_mul, show c + (p - c) = p by omega, Nat.mul_mod_right]
      have D2 := divLoop_ok hp hg0 hg.red hinv.2.1 i (takeAway p c i g f) [c] (takeAway_red (by omega) hf.red) (by rw [takeAway_length]; omega) (fun k hk => by
        rw [takeAway_getD _ _ _ _ _ hlen]
        split
        · have : k = i + (g.length - 1) := by omega
          subst this
          rw [show i + (g.length - 1) - i = g.length - 1 by omega]; exact hkey
        · exact getD_out (by omega))
      obtain ⟨l2, h6, h7, _⟩ := D2.more
      rw [h6]
      simp [h7]
      exact hc0
    · rw [trim_length]
      have h8 := trimLen_le ((divLoop p inv g (f.length - (g.length - 1)) f []).1.take (g.length - 1))
      rw [List.length_take] at h8
      omega
    · show (divLoop p inv g (f.length - (g.length - 1)) f []).2.length = _
      rw [h1, List.append_nil, h2]

end Go.Proofs.YtgcjdojhfimceaaGreat.Q

namespace Go.Proofs.YtgcjdojhfimceaaGreat.Q
open M (Pr)
variable {p : Nat}

theorem Pr.pos {p : Nat} (h : Pr p) : 0 < p := by have := h.1; omega

theorem pol_prod (hP : Pr p) {f g : List Nat} (hf : Pol p f) (hg : Pol p g) : Pol p (prodP' p f g) := prod_last (fld_of hP) hf hg

theorem prod_len {f g : List Nat} (hf : f.length ≠ 0) (hg : g.length ≠ 0) : (prodP' p f g).length + 1 = f.length + g.length := by
  rw [prod_length hf hg]; omega

theorem len_zero {f : List Nat} : f.length = 0 ↔ f = [] := List.length_eq_zero_iff

/-- No zero divisors. -/
theorem mul_eq_zero (hP : Pr p) {f g : List Nat} (hf : Pol p f) (hg : Pol p g) (h : ev p f * ev p g = 0) : f = [] ∨ g = [] := by
  rw [← ev_prod, ev_zero_iff (Pr.pos hP) (pol_prod hP hf hg)] at h
  by_cases h1 : f.length = 0
  · exact .inl (len_zero.1 h1)
  · by_cases h2 : g.length = 0
    · exact .inr (len_zero.1 h2)
    · have := prod_len (p := p) h1 h2
      rw [h] at this
      simp at this
      omega

theorem mul_cancel (hP : Pr p) {f g h : List Nat} (hf : Pol p f) (hg : Pol p g) (hh : Pol p h) (hn : h ≠ []) (he : ev p f * ev p h = ev p g * ev p h) : f = g := by
  have hp := Pr.pos hP
  have h1 : ev p (difP p f g) * ev p h = 0 := by rw [ev_dif hp f hg.red, Px.sub_mul, he, Px.sub_self]
  rcases mul_eq_zero hP (pol_dif hp f g) hh h1 with h2 | h2
  · have h3 := ev_dif hp f hg.red
    rw [h2, ev_nil] at h3
    exact ev_inj hp hf hg (Px.sub_eq_zero.1 h3.symm)
  · exact absurd h2 hn

/-- The length of a list with the same value is the same; that of a sum is bounded. -/
theorem len_le_of {f : List Nat} (hf : Pol p f) {n : Nat} (h : ∀ i, n ≤ i → f.getD i 0 = 0) : f.length ≤ n := by
  rcases Nat.lt_or_ge n f.length with h1 | h1
  · exact absurd (h (f.length - 1) (by omega)) (hf.ne (by omega))
  · exact h1

theorem dif_len (hp : 0 < p) {f g : List Nat} : (difP p f g).length ≤ max f.length g.length := by
  refine len_le_of (pol_dif hp f g) fun i hi => ?_
  rw [dif_getD, getD_out (by omega), getD_out (by omega)]; simp

theorem sum_len (hp : 0 < p) {f g : List Nat} : (sumP p f g).length ≤ max f.length g.length := by
  refine len_le_of (pol_sum hp f g) fun i hi => ?_
  rw [sum_getD, getD_out (by omega), getD_out (by omega)]; simp

/-- Quotient and remainder are unique. -/
theorem div_unique (hP : Pr p) {f g q r : List Nat} (hf : Pol p f) (hg : Pol p g) (hg0 : g.length ≠ 0) (hq : Pol p q) (hr : Pol p r) (hl : r.length < g.length) (h : ev p f = ev p q * ev p g + ev p r) :
    divP p f g = (q, r) := by
  have hp := Pr.pos hP
  have D := div_is hP hf hg hg0
  generalize divP p f g = d at D ⊢
  obtain ⟨q', r'⟩ := d
  simp only at D
  have h1 : ev p (difP p q q') * ev p g = ev p (difP p r' r) := by
    rw [ev_dif hp q D.qpol.red, ev_dif hp r' hr.red, Px.sub_mul]
    have h2 := D.val
    rw [h] at h2
    rw [Px.sub_eq_iff]
    have h3 := congrArg (· + -ev p r) h2
    simp only [Px.add_assoc, Px.add_neg, Px.add_zero] at h3
    rw [h3, Px.sub_def]
  have h2 : difP p r' r = [] := by
    have h4 := dif_len hp (f := r') (g := r)
    have h5 := D.rlen
    by_cases h0 : (difP p q q').length = 0
    · rw [len_zero.1 h0, ev_nil, Px.zero_mul] at h1
      exact (ev_zero_iff hp (pol_dif hp _ _)).1 h1.symm
    · rw [← ev_prod] at h1
      have h6 := ev_inj hp (pol_prod hP (pol_dif hp _ _) hg) (pol_dif hp _ _) h1
      have h7 := prod_len (p := p) h0 hg0
      rw [h6] at h7
      omega
  rw [h2, ev_nil] at h1
  have h8 : difP p q q' = [] := by
    rcases mul_eq_zero hP (pol_dif hp q q') hg h1 with h9 | h9
    · exact h9
    · rw [h9] at hg0; exact absurd rfl hg0
  have h9 := ev_dif hp q D.qpol.red
  rw [h8, ev_nil] at h9
  have h10 := ev_dif hp r' hr.red
  rw [h2, ev_nil] at h10
  rw [ev_inj hp hq D.qpol (Px.sub_eq_zero.1 h9.symm), ev_inj hp D.rpol hr (Px.sub_eq_zero.1 h10.symm)]

/-! ### Divisors -/
def Dv (p : Nat) (d f : List Nat) : Prop := ∃ q, Pol p q ∧ ev p f = ev p q * ev p d

theorem Dv.refl (hp : 2 ≤ p) (f : List Nat) : Dv p f f := ⟨[1], pol_of (by intro x hx; simp at hx; omega) (by simp), by rw [ev_one, Px.one_mul]⟩
theorem Dv.nil (d : List Nat) : Dv p d [] := ⟨[], Pol.nil p, by rw [ev_nil, Px.zero_mul]⟩
theorem Dv.trans (hP : Pr p) {a b c : List Nat} (h : Dv p a b) (h' : Dv p b c) : Dv p a c := by
  obtain ⟨q, hq, e⟩ := h
  obtain ⟨r, hr, e'⟩ := h'
  exact ⟨prodP' p r q, pol_prod hP hr hq, by rw [e', e, ev_prod, Px.mul_assoc]⟩
theorem Dv.mul (hP : Pr p) {d f g : List Nat} (hg : Pol p g) (h : Dv p d f) : Dv p d (prodP' p f g) := by
  obtain ⟨q, hq, e⟩ := h
  exact ⟨prodP' p q g, pol_prod hP hq hg, by rw [ev_prod, ev_prod, e]; ac_rfl⟩
theorem Dv.of_add (hP : Pr p) {d f g h : List Nat} (h1 : Dv p d f) (h2 : Dv p d g) (e : ev p h = ev p f + ev p g) : Dv p d h := by
  obtain ⟨q, hq, e1⟩ := h1
  obtain ⟨r, hr, e2⟩ := h2
  exact ⟨sumP p q r, pol_sum (Pr.pos hP) _ _, by rw [e, e1, e2, ev_sum, Px.add_mul]⟩
theorem Dv.of_sub (hP : Pr p) {d f g h : List Nat} (h1 : Dv p d f) (h2 : Dv p d g) (e : ev p h + ev p g = ev p f) : Dv p d h := by
  have hp := Pr.pos hP
  obtain ⟨q, hq, e1⟩ := h1
  obtain ⟨r, hr, e2⟩ := h2
  refine ⟨difP p q r, pol_dif hp _ _, ?_⟩
  rw [ev_dif hp q hr.red, Px.sub_mul, ← e1, ← e2]
  exact (Px.sub_eq_iff.2 (by rw [← e, Px.add_comm])).symm

theorem Dv.len (hP : Pr p) {d f : List Nat} (hd : Pol p d) (hf : Pol p f) (h : Dv p d f) (h0 : f.length ≠ 0) : d.length ≤ f.length ∧ d.length ≠ 0 := by
  have hp := Pr.pos hP
  obtain ⟨q, hq, e⟩ := h
  rw [← ev_prod] at e
  have e' := ev_inj hp hf (pol_prod hP hq hd) e
  by_cases h1 : q.length = 0
  · rw [prod_nil (.inl h1)] at e'; rw [e'] at h0; simp at h0
  · by_cases h2 : d.length = 0
    · rw [prod_nil (.inr h2)] at e'; rw [e'] at h0; simp at h0
    · have := prod_len (p := p) h1 h2
      rw [← e'] at this
      omega

/-- Divided without a remainder, just if it divides. -/
theorem rem_nil_iff (hP : Pr p) {f g : List Nat} (hf : Pol p f) (hg : Pol p g) (hg0 : g.length ≠ 0) : (divP p f g).2 = [] ↔ Dv p g f := by
  have D := div_is hP hf hg hg0
  constructor
  · intro h
    refine ⟨(divP p f g).1, D.qpol, ?_⟩
    have := D.val
    rwa [h, ev_nil, Px.add_zero] at this
  · rintro ⟨q, hq, e⟩
    rw [div_unique hP hf hg hg0 hq (Pol.nil p) (by simp; omega) (by rw [e, ev_nil, Px.add_zero])]

/-- The quotient of a product. -/
theorem div_exact (hP : Pr p) {f g q : List Nat} (hf : Pol p f) (hg : Pol p g) (hg0 : g.length ≠ 0) (hq : Pol p q) (e : ev p f = ev p q * ev p g) : divP p f g = (q, []) :=
  div_unique hP hf hg hg0 hq (Pol.nil p) (by simp; omega) (by rw [e, ev_nil, Px.add_zero])

/-! ### Constants, and monic polynomials -/
theorem pol_const {c : Nat} (h : c < p) (h0 : c ≠ 0) : Pol p [c] := pol_of (by intro x hx; simp at hx; omega) (by simpa using h0)

theorem ev_const_mul (a b : Nat) (h : a * b % p = 1) : ev p [a] * ev p [b] = 1 := by
  rw [← ev_prod, ← ev_one]
  congr 1
  unfold prodP'
  simp [conv, h]

theorem monicC_pol (hP : Pr p) {f : List Nat} (hf : Pol p f) (h0 : f.length ≠ 0) : ∃ c, monicC p f = [c] ∧ c < p ∧ c ≠ 0 ∧ f.getD (f.length - 1) 0 * c % p = 1 := by
  have h1 := inv_spec hP (hf.red.getD (Pr.pos hP) _) (hf.ne h0)
  exact ⟨_, by rw [monicC, if_neg h0], h1.1, h1.2.2, h1.2.1⟩

def Mon (f : List Nat) : Prop := f.length ≠ 0 ∧ f.getD (f.length - 1) 0 = 1

theorem monic_is (hP : Pr p) {f : List Nat} (hf : Pol p f) (h0 : f.length ≠ 0) : Pol p (monicP p f) ∧ Mon (monicP p f) ∧ (monicP p f).length = f.length ∧ ev p (monicP p f) = ev p f * ev p (monicC p f) ∧ Dv p f (monicP p f) ∧ Dv p (monicP p f) f := by
  obtain ⟨c, hc, hcl, hc0, hinv⟩ := monicC_pol hP hf h0
  have hcp := pol_const hcl hc0
  have e : monicP p f = prodP' p f [c] := by rw [monicP, if_neg h0, hc]
  have hl : (monicP p f).length = f.length := by
    have := prod_len (p := p) (f := f) (g := [c]) h0 (by simp)
    rw [e]; simp at this; omega
  have hev : ev p (monicP p f) = ev p f * ev p [c] := by rw [e, ev_prod]
  refine ⟨by rw [e]; exact pol_prod hP hf hcp, ⟨by omega, ?_⟩, hl, by rw [hev, hc], ⟨[c], hcp, by rw [hev, Px.mul_comm]⟩, ?_⟩
  · have h2 := prod_getD p f [c] (f.length - 1)
    rw [show f.length - 1 = f.length + [c].length - 2 by simp, cau_top h0 (by simp)] at h2
    rw [hl, e, show f.length - 1 = f.length + [c].length - 2 by simp]
    have h3 : cf f (f.length - 1) * cf [c] ([c].length - 1) % (p : Int) = 1 := by
      simp only [cf, List.length_singleton, Nat.sub_self, List.getD_cons_zero]
      exact_mod_cast hinv
    rw [h3] at h2
    exact_mod_cast h2
  · refine ⟨[f.getD (f.length - 1) 0], pol_const (hf.red.getD (Pr.pos hP) _) (hf.ne h0), ?_⟩
    rw [hev, Px.mul_comm, Px.mul_assoc, Px.mul_comm (ev p [c]), ev_const_mul _ _ hinv, Px.mul_one]

/-- Monic polynomials that divide each other are the same. -/
theorem mon_unique (hP : Pr p) {f g : List Nat} (hf : Pol p f) (hg : Pol p g) (mf : Mon f) (mg : Mon g) (h1 : Dv p f g) (h2 : Dv p g f) : f = g := by
  have hp := Pr.pos hP
  have l1 := h1.len hP hf hg mg.1
  have l2 := h2.len hP hg hf mf.1
  obtain ⟨q, hq, e⟩ := h1
  rw [← ev_prod] at e
  have e' := ev_inj hp hg (pol_prod hP hq hf) e
  have hq0 : q.length ≠ 0 := fun h0 => by
    rw [prod_nil (.inl h0)] at e'
    have := mg.1
    rw [e'] at this
    exact this rfl
  have hl := prod_len (p := p) hq0 mf.1
  rw [← e'] at hl
  have hq1 : q.length = 1 := by omega
  have h2 := prod_getD p q f (q.length + f.length - 2)
  rw [cau_top hq0 mf.1, ← e'] at h2
  have h3 : g.getD (q.length + f.length - 2) 0 = 1 := by rw [show q.length + f.length - 2 = g.length - 1 by omega]; exact mg.2
  have h4 : cf f (f.length - 1) = 1 := by unfold cf; rw [mf.2]; rfl
  rw [h3, h4, Int.mul_one] at h2
  have h5 := hq.red.getD hp (q.length - 1)
  have h6 : q.getD (q.length - 1) 0 = 1 := by
    unfold cf at h2
    have : ((q.getD (q.length - 1) 0 : Nat) : Int) % p = (q.getD (q.length - 1) 0 : Nat) := by exact_mod_cast Nat.mod_eq_of_lt h5
    omega
  have h7 : q = [1] := by
    match q, hq1 with
    | [a], _ => simp at h6; rw [h6]
  rw [h7, ev_prod, ev_one, Px.one_mul] at e
  exact (ev_inj hp hg hf e).symm

/-! ### The greatest common divisor -/
theorem rem_len (f g : List Nat) (h : g.length ≠ 0) : (remP p f g).length < g.length := by
  rw [remP, divP]
  split
  · assumption
  · show (trim _).length < _
    rw [trim_length]
    have := trimLen_le ((divLoop p (invM p (g.getD (g.length - 1) 0)) g (f.length - (g.length - 1)) f []).1.take (g.length - 1))
    rw [List.length_take] at this
    omega

structure GcdIs (p : Nat) (f g d : List Nat) : Prop where
  pol : Pol p d
  mon : d = [] ∨ Mon d
  zero : d = [] ↔ f = [] ∧ g = []
  left : Dv p d f
  right : Dv p d g
  comb : ∃ a b, Pol p a ∧ Pol p b ∧ ev p d = ev p a * ev p f + ev p b * ev p g

theorem gcdLoop_is (hP : Pr p) : ∀ (n : Nat) {f g : List Nat}, Pol p f → Pol p g → g.length < n → ∃ d, gcdLoop p n f g = some d ∧ GcdIs p f g d
  | 0, f, g, _, _, h => by omega
  | n + 1, f, g, hf, hg, h => by
    have hp := Pr.pos hP
    have h2 := hP.1
    rw [gcdLoop]
    split
    · next h0 =>
      refine ⟨_, rfl, ?_⟩
      have hg' := len_zero.1 h0
      subst hg'
      by_cases hf0 : f.length = 0
      · have e := len_zero.1 hf0
        subst e
        rw [monicP, if_pos List.length_nil]
        exact ⟨Pol.nil p, .inl rfl, by simp, Dv.nil _, Dv.nil _, [], [], Pol.nil p, Pol.nil p, by rw [ev_nil, Px.zero_mul, Px.zero_add]⟩
      · obtain ⟨m1, m2, m3, m4, m5, m6⟩ := monic_is hP hf hf0
        obtain ⟨c, hc, hcl, hc0, _⟩ := monicC_pol hP hf hf0
        refine ⟨m1, .inr m2, ?_, m6, Dv.nil _, [c], [], pol_const hcl hc0, Pol.nil p, by rw [m4, hc, ev_nil, Px.zero_mul, Px.add_zero, Px.mul_comm]⟩
        constructor
        · intro h; rw [h] at m3; simp at m3; omega
        · rintro ⟨rfl, _⟩; exact absurd rfl hf0
    · next h0 =>
      have D := div_is hP hf hg h0
      have hl := rem_len (p := p) f g h0
      obtain ⟨d, e, G⟩ := gcdLoop_is hP n (f := g) (g := remP p f g) hg D.rpol (by omega)
      refine ⟨d, e, G.pol, G.mon, ?_, ?_, G.left, ?_⟩
      · rw [G.zero]
        constructor
        · rintro ⟨rfl, _⟩; exact absurd rfl h0
        · rintro ⟨_, rfl⟩; exact absurd rfl h0
      · refine Dv.of_add hP (f := prodP' p g (divP p f g).1) (g := remP p f g) (G.left.mul hP D.qpol) G.right ?_
        rw [ev_prod, D.val, Px.mul_comm]; rfl
      · obtain ⟨a, b, ha, hb, e⟩ := G.comb
        refine ⟨b, difP p a (prodP' p b (divP p f g).1), hb, pol_dif hp _ _, ?_⟩
        have hv := D.val
        rw [show (divP p f g).2 = remP p f g from rfl] at hv
        rw [e, ev_dif hp a (pol_prod hP hb D.qpol).red, ev_prod, Px.sub_mul, hv, Px.mul_add, Px.sub_def]
        rw [show ev p b * (ev p (divP p f g).1 * ev p g) + ev p b * ev p (remP p f g) + (ev p a * ev p g + -(ev p b * ev p (divP p f g).1 * ev p g)) = ev p a * ev p g + ev p b * ev p (remP p f g) + (ev p b * (ev p (divP p f g).1 * ev p g) + -(ev p b * ev p (divP p f g).1 * ev p g)) by ac_rfl, Px.mul_assoc (ev p b), Px.add_neg, Px.add_zero]

theorem GcdIs.greatest (hP : Pr p) {f g d c : List Nat} (G : GcdIs p f g d) (h1 : Dv p c f) (h2 : Dv p c g) : Dv p c d := by
  obtain ⟨a, b, ha, hb, e⟩ := G.comb
  refine Dv.of_add hP (h1.mul hP ha) (h2.mul hP hb) ?_
  rw [e, ev_prod, ev_prod, Px.mul_comm (ev p a), Px.mul_comm (ev p b)]

theorem GcdIs.unique (hP : Pr p) {f g d d' : List Nat} (G : GcdIs p f g d) (G' : GcdIs p f g d') : d = d' := by
  have h1 := G'.greatest hP G.left G.right
  have h2 := G.greatest hP G'.left G'.right
  by_cases h0 : d = []
  · rw [h0, (G'.zero.2 (G.zero.1 h0))]
  · have h0' : d' ≠ [] := fun h => h0 (G.zero.2 (G'.zero.1 h))
    exact mon_unique hP G.pol G'.pol (G.mon.resolve_left h0) (G'.mon.resolve_left h0') h1 h2

theorem GcdIs.symm {f g d : List Nat} (G : GcdIs p f g d) : GcdIs p g f d := by
  obtain ⟨a, b, ha, hb, e⟩ := G.comb
  exact ⟨G.pol, G.mon, by rw [G.zero, and_comm], G.right, G.left, b, a, hb, ha, by rw [e, Px.add_comm]⟩

theorem gcdP_is (hP : Pr p) {f g : List Nat} (hf : Pol p f) (hg : Pol p g) : GcdIs p f g (gcdP p f g) := by
  obtain ⟨d, e, G⟩ := gcdLoop_is hP (g.length + 1) hf hg (by omega)
  rw [gcdP, e]
  exact G

end Go.Proofs.YtgcjdojhfimceaaGreat.Q

namespace Go.Proofs.YtgcjdojhfimceaaGreat.Q
open M (Pr)
variable {p : Nat}

/-- The program's loop, in at most n steps. -/
def xgcdLoop (p : Nat) : Nat → List Nat → List Nat → List Nat → List Nat → Option (List Nat × List Nat)
  | 0, _, _, _, _ => none
  | n + 1, r, s, a, b => if s.length = 0 then some (r, a) else xgcdLoop p n s (divP p r s).2 b (difP p a (prodP' p (divP p r s).1 b))

structure Xg (p : Nat) (f g r s a b : List Nat) : Prop where
  rpol : Pol p r
  spol : Pol p s
  apol : Pol p a
  bpol : Pol p b
  left : ∃ y, Pol p y ∧ ev p r = ev p a * ev p f + ev p y * ev p g
  right : ∃ z, Pol p z ∧ ev p s = ev p b * ev p f + ev p z * ev p g

structure Late (g r s a b : List Nat) : Prop where
  sum : b.length + r.length = g.length + 1
  lt : a.length < b.length
  down : s.length < r.length

theorem Xg.step (hP : Pr p) {f g r s a b : List Nat} (h : Xg p f g r s a b) (hs : s.length ≠ 0) : Xg p f g s (divP p r s).2 b (difP p a (prodP' p (divP p r s).1 b)) := by
  have hp := Pr.pos hP
  have D := div_is hP h.rpol h.spol hs
  obtain ⟨y, hy, e1⟩ := h.left
  obtain ⟨z, hz, e2⟩ := h.right
  refine ⟨h.spol, D.rpol, h.bpol, pol_dif hp _ _, ⟨z, hz, e2⟩, difP p y (prodP' p (divP p r s).1 z), pol_dif hp _ _, ?_⟩
  have hv := D.val
  rw [ev_dif hp _ (pol_prod hP D.qpol h.bpol).red, ev_dif hp _ (pol_prod hP D.qpol hz).red, ev_prod, ev_prod]
  generalize ev p (divP p r s).1 = q at hv
  have h1 : ev p (divP p r s).2 = ev p r - q * ev p s := (Px.sub_eq_iff.2 hv).symm
  rw [h1, e1, e2]
  simp only [Px.sub_def, Px.add_mul, Px.mul_add, Px.neg_mul, Px.neg_add_rev, Px.mul_assoc]
  ac_rfl

theorem div_len (hP : Pr p) {f g : List Nat} (hf : Pol p f) (hg : Pol p g) (h0 : g.length ≠ 0) : (divP p f g).1.length = f.length - (g.length - 1) := (div_is hP hf hg h0).qlen

theorem dif_len_right (hp : 0 < p) {f g : List Nat} (hg : Pol p g) (h : f.length < g.length) : (difP p f g).length = g.length := by
  have h1 := dif_len hp (f := f) (g := g)
  rcases Nat.lt_or_ge (difP p f g).length g.length with h2 | h2
  · exfalso
    have h3 : (difP p f g).getD (g.length - 1) 0 = 0 := getD_out (by omega)
    rw [dif_getD, getD_out (f := f) (by omega), Nat.zero_add] at h3
    have h4 := hg.red.getD hp (g.length - 1)
    have h5 := hg.ne (by omega)
    rw [Nat.mod_eq_of_lt (by omega)] at h3
    omega
  · omega

theorem Late.first (hP : Pr p) {f g : List Nat} (hf : Pol p f) (hg : Pol p g) (h0 : g.length ≠ 0) : Late g g (divP p f g).2 [] (difP p [1] (prodP' p (divP p f g).1 [])) := by
  have h2 := hP.1
  have e : difP p [1] (prodP' p (divP p f g).1 []) = [1] := by
    rw [prod_nil (.inr rfl)]
    have h3 : 1 % p = 1 := Nat.mod_eq_of_lt (by omega)
    simp [difP, comb, trim, trimLen, h3]
  rw [e]
  exact ⟨by simp; omega, by simp, (div_is hP hf hg h0).rlen⟩

theorem Late.step (hP : Pr p) {f g r s a b : List Nat} (h : Late g r s a b) (x : Xg p f g r s a b) (hs : s.length ≠ 0) : Late g s (divP p r s).2 b (difP p a (prodP' p (divP p r s).1 b)) := by
  have hp := Pr.pos hP
  have D := div_is hP x.rpol x.spol hs
  have hl := D.qlen
  have h1 := h.down
  have h2 := h.lt
  have h3 := h.sum
  have h4 := prod_len (p := p) (f := (divP p r s).1) (g := b) (by omega) (by omega)
  have h5 := dif_len_right hp (f := a) (pol_prod hP D.qpol x.bpol) (by omega)
  exact ⟨by omega, by omega, D.rlen⟩

theorem xgcdLoop_late (hP : Pr p) {f g : List Nat} : ∀ (n : Nat) {r s a b : List Nat}, Xg p f g r s a b → Late g r s a b → s.length < n →
    ∃ R A, xgcdLoop p n r s a b = some (R, A) ∧ gcdLoop p n r s = some (monicP p R) ∧ Pol p R ∧ R.length ≠ 0 ∧ Pol p A ∧ A.length + R.length ≤ g.length ∧ ∃ y, Pol p y ∧ ev p R = ev p A * ev p f + ev p y * ev p g
  | 0, r, s, a, b, x, l, h => by omega
  | n + 1, r, s, a, b, x, l, h => by
    rw [xgcdLoop, gcdLoop]
    by_cases h0 : s.length = 0
    · rw [if_pos h0, if_pos h0]
      have h1 := l.down
      have h2 := l.sum
      have h3 := l.lt
      exact ⟨r, a, rfl, rfl, x.rpol, by omega, x.apol, by omega, x.left⟩
    · rw [if_neg h0, if_neg h0]
      have h1 := (div_is hP x.rpol x.spol h0).rlen
      exact xgcdLoop_late hP n (x.step hP h0) (l.step hP x h0) (by omega)

structure XgIs (p : Nat) (f g R A : List Nat) : Prop where
  rpol : Pol p R
  apol : Pol p A
  gcd : gcdP p f g = monicP p R
  comb : ∃ y, Pol p y ∧ ev p R = ev p A * ev p f + ev p y * ev p g
  bound : g.length ≠ 0 → A.length + R.length ≤ g.length
  none : g.length = 0 → R = f ∧ A = [1]

theorem xgcd_is (hP : Pr p) {f g : List Nat} (hf : Pol p f) (hg : Pol p g) : ∃ R A, xgcdLoop p (g.length + 1) f g [1] [] = some (R, A) ∧ XgIs p f g R A := by
  have h2 := hP.1
  have h1 : Pol p [1] := pol_const (by omega) (by omega)
  have X : Xg p f g f g [1] [] := ⟨hf, hg, h1, Pol.nil p, ⟨[], Pol.nil p, by rw [ev_one, Px.one_mul, ev_nil, Px.zero_mul, Px.add_zero]⟩, ⟨[1], h1, by rw [ev_one, Px.one_mul, ev_nil, Px.zero_mul, Px.zero_add]⟩⟩
  by_cases h0 : g.length = 0
  · refine ⟨f, [1], by rw [xgcdLoop, if_pos h0], hf, h1, ?_, X.left, fun h => absurd h0 h, fun _ => ⟨rfl, rfl⟩⟩
    rw [gcdP, gcdLoop, if_pos h0]; rfl
  · have hl := (div_is hP hf hg h0).rlen
    obtain ⟨R, A, e1, e2, r1, r2, r3, r4, r5⟩ := xgcdLoop_late hP g.length (X.step hP h0) (Late.first hP hf hg h0) (by omega)
    refine ⟨R, A, by rw [xgcdLoop, if_neg h0]; exact e1, r1, r3, ?_, r5, fun _ => r4, fun h => absurd h h0⟩
    rw [gcdP, gcdLoop, if_neg h0]
    show (gcdLoop p g.length g (divP p f g).2).getD [] = _
    rw [e2]; rfl

/-- The program's Gcd. -/
def gcdA (p : Nat) (R A : List Nat) : List Nat := prodP' p A (monicC p R)
def gcdB (p : Nat) (f g R A : List Nat) : List Nat := if g.length = 0 then [] else (divP p (difP p (monicP p R) (prodP' p (gcdA p R A) f)) g).1

structure GcdOut (p : Nat) (f g d a b : List Nat) : Prop where
  isgcd : d = gcdP p f g
  apol : Pol p a
  bpol : Pol p b
  comb : sumP p (prodP' p a f) (prodP' p b g) = d
  g0 : g.length = 0 → b.length = 0 ∧ a.length = min f.length 1
  f0 : g.length ≠ 0 → f.length = 0 → a.length = 0 ∧ b.length = 1
  bound : g.length ≠ 0 → f.length ≠ 0 → if (divP p f d).1.length = 1 ∧ (divP p g d).1.length = 1 then a.length = 0 ∧ b.length = 1 else (a.length = 0 ∨ a.length < (divP p g d).1.length) ∧ (b.length = 0 ∨ b.length < (divP p f d).1.length)

theorem gcdOut (hP : Pr p) {f g R A : List Nat} (hf : Pol p f) (hg : Pol p g) (h : XgIs p f g R A) : GcdOut p f g (monicP p R) (gcdA p R A) (gcdB p f g R A) := by
  have hp := Pr.pos hP
  have h2 := hP.1
  have G := gcdP_is hP hf hg
  rw [h.gcd] at G
  by_cases hR : R.length = 0
  · -- both are 0
    have hd : monicP p R = [] := by rw [monicP, if_pos hR]
    have hz := G.zero.1 hd
    obtain ⟨rfl, rfl⟩ := hz
    have ha : gcdA p R A = [] := by rw [gcdA, monicC, if_pos hR, prod_nil (.inr rfl)]
    have hb : gcdB p [] [] R A = [] := by rw [gcdB, if_pos List.length_nil]
    rw [hd, ha, hb]
    refine ⟨by rw [h.gcd, hd], Pol.nil p, Pol.nil p, ?_, fun _ => ⟨rfl, rfl⟩, fun h => absurd rfl h, fun h => absurd rfl h⟩
    simp [prodP', sumP, comb, trim]
  · obtain ⟨m1, m2, m3, m4, m5, m6⟩ := monic_is hP h.rpol hR
    obtain ⟨c, hc, hcl, hc0, hinv⟩ := monicC_pol hP h.rpol hR
    have hcp := pol_const hcl hc0
    have hap : Pol p (gcdA p R A) := by rw [gcdA, hc]; exact pol_prod hP h.apol hcp
    obtain ⟨y, hy, ey⟩ := h.comb
    have hal : (gcdA p R A).length = A.length := by
      rw [gcdA, hc]
      by_cases h0 : A.length = 0
      · rw [prod_nil (.inl h0), h0]; rfl
      · have := prod_len (p := p) (f := A) (g := [c]) h0 (by simp)
        simp at this; omega
    have ed : ev p (monicP p R) = ev p (gcdA p R A) * ev p f + ev p (prodP' p y [c]) * ev p g := by
      rw [m4, hc, ey, gcdA, hc, ev_prod, ev_prod, Px.add_mul]; ac_rfl
    have hyc := pol_prod hP hy hcp
    by_cases hg0 : g.length = 0
    · obtain ⟨rfl, rfl⟩ := h.none hg0
      have hb : gcdB p R g R [1] = [] := by rw [gcdB, if_pos hg0]
      rw [hb]
      refine ⟨h.gcd.symm, hap, Pol.nil p, ?_, fun _ => ⟨rfl, by rw [hal]; simp; omega⟩, fun h => absurd hg0 h, fun h => absurd hg0 h⟩
      refine ev_inj hp (pol_sum hp _ _) m1 ?_
      rw [ev_sum, ev_prod, ev_prod, ed, len_zero.1 hg0, ev_nil, Px.zero_mul, Px.mul_zero]
    · have hbd := h.bound hg0
      have hdf := pol_dif hp (monicP p R) (prodP' p (gcdA p R A) f)
      have ediv : ev p (difP p (monicP p R) (prodP' p (gcdA p R A) f)) = ev p (prodP' p y [c]) * ev p g := by
        rw [ev_dif hp _ (pol_prod hP hap hf).red, Px.sub_eq_iff, ev_prod, ed]
      have hdv := div_exact hP hdf hg hg0 hyc ediv
      have hb : gcdB p f g R A = prodP' p y [c] := by rw [gcdB, if_neg hg0, hdv]
      rw [hb]
      have hcomb : sumP p (prodP' p (gcdA p R A) f) (prodP' p (prodP' p y [c]) g) = monicP p R := by
        refine ev_inj hp (pol_sum hp _ _) m1 ?_
        rw [ev_sum, ev_prod, ev_prod _ g, ed]
      generalize prodP' p y [c] = b at *
      generalize gcdA p R A = a at *
      have hbz : b.length ≠ 0 → b.length + g.length = (difP p (monicP p R) (prodP' p a f)).length + 1 := fun h0 => by
        rw [← ev_prod] at ediv
        rw [ev_inj hp hdf (pol_prod hP hyc hg) ediv]
        have := prod_len (p := p) h0 hg0
        omega
      have hdl := dif_len hp (f := monicP p R) (g := prodP' p a f)
      refine ⟨h.gcd.symm, hap, hyc, hcomb, fun h0 => absurd h0 hg0, fun _ hf0 => ?_, fun _ hf0 => ?_⟩
      · -- f is 0
        have hfn := len_zero.1 hf0
        subst hfn
        have hda := G.right.len hP m1 hg hg0
        have e1 : ev p (monicP p R) = ev p b * ev p g := by rw [ed, ev_nil, Px.mul_zero, Px.zero_add]
        rw [← ev_prod] at e1
        have e2 := ev_inj hp m1 (pol_prod hP hyc hg) e1
        have hb0 : b.length ≠ 0 := fun h0 => by rw [prod_nil (.inl h0)] at e2; rw [e2] at m3; simp at m3; omega
        have h5 := prod_len (p := p) hb0 hg0
        rw [← e2] at h5
        have h6 : Dv p g (monicP p R) := ⟨b, hyc, by rw [e1, ev_prod]⟩
        have h7 := h6.len hP hg m1 (by omega)
        omega
      · have hda := G.right.len hP m1 hg hg0
        have hda2 := G.left.len hP m1 hf hf0
        have hlx := div_len hP hf m1 m2.1
        have hly := div_len hP hg m1 m2.1
        generalize (divP p f (monicP p R)).1 = X at *
        generalize (divP p g (monicP p R)).1 = Y at *
        have hay : a.length + (monicP p R).length ≤ g.length := by omega
        have haf : a.length ≠ 0 → (prodP' p a f).length + 1 = a.length + f.length := fun h0 => prod_len h0 hf0
        have haf0 : a.length = 0 → (prodP' p a f).length = 0 := fun h0 => by rw [prod_nil (.inl h0)]; rfl
        -- where a is 0, b g is the divisor
        have hab : a.length = 0 → b.length = 1 ∧ g.length = (monicP p R).length := fun h0 => by
          have e1 : ev p (monicP p R) = ev p b * ev p g := by rw [ed, len_zero.1 h0, ev_nil, Px.zero_mul, Px.zero_add]
          rw [← ev_prod] at e1
          have e2 := ev_inj hp m1 (pol_prod hP hyc hg) e1
          have hb0 : b.length ≠ 0 := fun h0 => by rw [prod_nil (.inl h0)] at e2; rw [e2] at m3; simp at m3; omega
          have h5 := prod_len (p := p) hb0 hg0
          rw [← e2] at h5
          omega
        by_cases ha0 : a.length = 0
        · obtain ⟨h5, h6⟩ := hab ha0
          split
          · exact ⟨ha0, h5⟩
          · refine ⟨.inl ha0, .inr ?_⟩
            omega
        · have := haf ha0
          split
          · omega
          · refine ⟨.inr (by omega), ?_⟩
            by_cases hb0 : b.length = 0
            · exact .inl hb0
            · have := hbz hb0
              right
              omega

end Go.Proofs.YtgcjdojhfimceaaGreat.Q

namespace Go.Proofs.YtgcjdojhfimceaaGreat.Q
open M (Pr)
variable {p : Nat}

def lin (p a : Nat) : List Nat := [(p - a) % p, 1]

theorem pol_lin (h2 : 2 ≤ p) (a : Nat) : Pol p (lin p a) := by
  refine pol_of ?_ (.inr (by simp [lin]))
  intro x hx
  simp [lin] at hx
  rcases hx with rfl | rfl
  · exact Nat.mod_lt _ (by omega)
  · omega

theorem val_cons (c : Nat) (f : List Nat) (x : Nat) : valP p (c :: f) x = (valP p f x * x + c) % p := rfl
theorem val_lt (hp : 0 < p) (f : List Nat) (x : Nat) : valP p f x < p := by
  cases f with
  | nil => exact hp
  | cons c f => exact Nat.mod_lt _ hp

/-- X times a polynomial. -/
def xX (p : Nat) : Px p := mono p 1 1

theorem ev_cons (c : Nat) (f : List Nat) : ev p (c :: f) = ev p [c] + xX p * ev p f := by
  unfold ev xX mono
  rw [Px.mul_of, Px.add_of]
  congr 1
  funext k
  rw [cau_mono]
  rcases k with _ | k
  · simp [cf]
  · simp [cf]

theorem ev_const_congr {c d : Nat} (h : c % p = d % p) : ev p [c] = ev p [d] := by
  refine Px.eq fun i => ?_
  rcases i with _ | i
  · simp only [cf, List.getD_cons_zero]
    have h1 := Nat.mod_add_div c p
    have h2 := Nat.mod_add_div d p
    refine ⟨((c / p : Nat) : Int) - ((d / p : Nat) : Int), ?_⟩
    have h3 : (c : Int) = ((c % p : Nat) : Int) + (p : Int) * ((c / p : Nat) : Int) := by exact_mod_cast h1.symm
    have h4 : (d : Int) = ((d % p : Nat) : Int) + (p : Int) * ((d / p : Nat) : Int) := by exact_mod_cast h2.symm
    rw [Int.mul_sub, h]  at *
    omega
  · exact ⟨0, by simp [cf]⟩

theorem ev_const_add (c d : Nat) : ev p [c] + ev p [d] = ev p [c + d] := by
  unfold ev; rw [Px.add_of]; congr 1; funext i
  rcases i with _ | i <;> simp [cf]
theorem ev_const_mul' (c d : Nat) : ev p [c] * ev p [d] = ev p [c * d] := by
  unfold ev; rw [Px.mul_of]; congr 1; funext i
  have : cf [c] = fun k => if k = 0 then (c : Int) else 0 := by funext k; rcases k with _ | k <;> simp [cf]
  rw [this, cau_mono]
  rcases i with _ | i <;> simp [cf]
theorem ev_const_zero : ev p [0] = 0 := by
  rw [← ev_nil]; unfold ev; congr 1; funext i; rcases i with _ | i <;> simp [cf]

theorem ev_lin {a : Nat} (ha : a ≤ p) : ev p (lin p a) + ev p [a] = xX p := by
  have h1 : xX p = ev p [0, 1] := by
    rw [ev_cons, ev_const_zero, Px.zero_add, ev_one, Px.mul_one]
  rw [h1, lin, ev_cons, ev_cons 0 [1], ev_const_zero, Px.zero_add]
  rw [show ev p [(p - a) % p] + xX p * ev p [1] + ev p [a] = xX p * ev p [1] + (ev p [(p - a) % p] + ev p [a]) by ac_rfl, ev_const_add]
  have : ev p [(p - a) % p + a] = 0 := by
    rw [← ev_const_zero]
    exact ev_const_congr (by rw [Nat.mod_add_mod, show p - a + a = p by omega, Nat.mod_self, Nat.zero_mod])
  rw [this, Px.add_zero]

/-- f is its value at a, but for a multiple of x - a. -/
theorem val_div (h2 : 2 ≤ p) {a : Nat} (ha : a ≤ p) : ∀ (f : List Nat), ∃ q : List Nat, Red p q ∧ q.length ≤ f.length - 1 ∧ ev p f = ev p q * ev p (lin p a) + ev p [valP p f a]
  | [] => ⟨[], by intro x hx; simp at hx, by simp, by rw [ev_nil, Px.zero_mul, Px.zero_add]; exact ev_const_zero.symm⟩
  | c :: f => by
    obtain ⟨q, hq, hl, e⟩ := val_div h2 ha f
    by_cases hf : f = []
    · subst hf
      refine ⟨[], by intro x hx; simp at hx, by simp, ?_⟩
      rw [ev_nil, Px.zero_mul, Px.zero_add]
      refine ev_const_congr ?_
      rw [val_cons, Nat.mod_mod]; simp [valP]
    · refine ⟨valP p f a :: q, ?_, ?_, ?_⟩
      · intro x hx
        rcases List.mem_cons.1 hx with rfl | hx
        · exact val_lt (by omega) f a
        · exact hq x hx
      · have : f.length ≠ 0 := fun h0 => hf (len_zero.1 h0)
        simp; omega
      · have e2 : ev p [valP p (c :: f) a] = ev p [c] + ev p [valP p f a] * ev p [a] := by
          rw [ev_const_mul', ev_const_add]
          exact ev_const_congr (by rw [val_cons, Nat.mod_mod, Nat.add_comm])
        rw [ev_cons, e, e2, ev_cons (valP p f a) q, Px.mul_add, Px.add_mul]
        rw [show ev p [c] + (xX p * (ev p q * ev p (lin p a)) + xX p * ev p [valP p f a]) = xX p * ev p q * ev p (lin p a) + ev p [c] + ev p [valP p f a] * xX p by ac_rfl]
        rw [← ev_lin (p := p) ha, Px.mul_add]
        ac_rfl

theorem pol_trim1 (_hp : 0 < p) (v : Nat) (h : v < p) : Pol p (trim [v]) := Red.trim (by intro x hx; simp at hx; omega)
theorem trim1_len (v : Nat) : (trim [v]).length ≤ 1 := by rw [trim_length]; exact trimLen_le [v]
theorem trim1_inj {v u : Nat} (h : trim [v] = trim [u]) : v = u := by
  have := congrArg (fun l => l.getD 0 0) h
  simpa only [trim_getD, List.getD_cons_zero] using this

theorem div_lin (hP : Pr p) {a : Nat} (ha : a ≤ p) {f : List Nat} (hf : Pol p f) : (divP p f (lin p a)).2 = trim [valP p f a] := by
  have h2 := hP.1
  obtain ⟨q, hq, _, e⟩ := val_div h2 ha f
  rw [div_unique hP hf (pol_lin h2 a) (by simp [lin]) hq.trim (pol_trim1 (by omega) _ (val_lt (by omega) f a)) (by have := trim1_len (valP p f a); simp [lin]; omega) (by rw [ev_trim, ev_trim]; exact e)]

theorem val_of (hP : Pr p) {a v : Nat} (ha : a ≤ p) (hv : v < p) {f q : List Nat} (hf : Pol p f) (hq : Pol p q) (e : ev p f = ev p q * ev p (lin p a) + ev p [v]) : valP p f a = v := by
  have h2 := hP.1
  have h1 := div_unique hP hf (pol_lin h2 a) (by simp [lin]) hq (pol_trim1 (by omega) v hv) (by have := trim1_len v; simp [lin]; omega) (by rw [ev_trim]; exact e)
  have h3 := div_lin hP ha hf
  rw [h1] at h3
  exact (trim1_inj h3).symm

theorem val_div' (hP : Pr p) {a : Nat} (ha : a ≤ p) (f : List Nat) : ∃ q : List Nat, Pol p q ∧ ev p f = ev p q * ev p (lin p a) + ev p [valP p f a] := by
  obtain ⟨q, hq, _, e⟩ := val_div hP.1 ha f
  exact ⟨trim q, hq.trim, by rw [ev_trim]; exact e⟩

theorem val_sum (hP : Pr p) {a : Nat} (ha : a ≤ p) (f g : List Nat) : valP p (sumP p f g) a = (valP p f a + valP p g a) % p := by
  have hp := Pr.pos hP
  obtain ⟨q, hq, e⟩ := val_div' hP ha f
  obtain ⟨r, hr, e'⟩ := val_div' hP ha g
  refine val_of hP ha (Nat.mod_lt _ hp) (pol_sum hp f g) (pol_sum hp q r) ?_
  rw [ev_sum, ev_sum, e, e', Px.add_mul, ev_const_congr (c := (valP p f a + valP p g a) % p) (d := valP p f a + valP p g a) (Nat.mod_mod _ _), ← ev_const_add]
  ac_rfl

theorem val_prod (hP : Pr p) {a : Nat} (ha : a ≤ p) {f g : List Nat} (hf : Pol p f) (hg : Pol p g) : valP p (prodP' p f g) a = valP p f a * valP p g a % p := by
  have hp := Pr.pos hP
  obtain ⟨q, hq, e⟩ := val_div' hP ha f
  obtain ⟨r, hr, e'⟩ := val_div' hP ha g
  have hu := pol_trim1 hp _ (val_lt hp f a)
  refine val_of hP ha (Nat.mod_lt _ hp) (pol_prod hP hf hg) (q := sumP p (prodP' p q g) (prodP' p (trim [valP p f a]) r)) (pol_sum hp _ _) ?_
  rw [ev_sum, ev_prod, ev_prod, ev_prod, ev_trim, Px.add_mul, ev_const_congr (c := valP p f a * valP p g a % p) (d := valP p f a * valP p g a) (Nat.mod_mod _ _), ← ev_const_mul']
  rw [show ev p q * ev p g * ev p (lin p a) + ev p [valP p f a] * ev p r * ev p (lin p a) + ev p [valP p f a] * ev p [valP p g a] = ev p q * ev p (lin p a) * ev p g + ev p [valP p f a] * (ev p r * ev p (lin p a) + ev p [valP p g a]) by rw [Px.mul_add]; ac_rfl]
  rw [← e', ← Px.add_mul, ← e]

theorem val_dif (hP : Pr p) {a : Nat} (ha : a ≤ p) {f g : List Nat} (_hf : Pol p f) (hg : Pol p g) (h : valP p f a = valP p g a) : valP p (difP p f g) a = 0 := by
  have hp := Pr.pos hP
  obtain ⟨q, hq, e⟩ := val_div' hP ha f
  obtain ⟨r, hr, e'⟩ := val_div' hP ha g
  refine val_of hP ha hp (pol_dif hp f g) (pol_dif hp q r) ?_
  rw [ev_dif hp f hg.red, ev_dif hp q hr.red, e, e', h, Px.sub_mul, ev_const_zero, Px.add_zero, Px.sub_def, Px.neg_add_rev]
  rw [show ev p q * ev p (lin p a) + ev p [valP p g a] + (-(ev p r * ev p (lin p a)) + -ev p [valP p g a]) = ev p q * ev p (lin p a) + -(ev p r * ev p (lin p a)) + (ev p [valP p g a] + -ev p [valP p g a]) by ac_rfl, Px.add_neg, Px.add_zero, Px.sub_def]

theorem val_lin (hP : Pr p) {a x : Nat} (_ha : a ≤ p) (_hx : x < p) : valP p (lin p a) x = (x + (p - a)) % p := by
  have h2 := hP.1
  simp only [lin, valP, List.foldr_cons, List.foldr_nil, Nat.zero_mul, Nat.zero_add]
  rw [Nat.mod_eq_of_lt (show 1 < p by omega), Nat.one_mul, Nat.add_mod_mod]

theorem val_lin_ne (hP : Pr p) {a x : Nat} (ha : a < p) (hx : x < p) (h : x ≠ a) : valP p (lin p a) x ≠ 0 := by
  rw [val_lin hP (by omega) hx]
  intro h0
  rcases Nat.lt_or_ge x a with h1 | h1
  · rw [Nat.mod_eq_of_lt (by omega)] at h0; omega
  · rw [show x + (p - a) = (x - a) + p by omega, Nat.add_mod_right, Nat.mod_eq_of_lt (by omega)] at h0; omega

/-- As many different roots as the length: then it is 0. -/
theorem roots_zero (hP : Pr p) : ∀ (xs : List Nat) {f : List Nat}, Pol p f → f.length ≤ xs.length → xs.Nodup → (∀ x ∈ xs, x < p ∧ valP p f x = 0) → f = []
  | [], f, _, hl, _, _ => len_zero.1 (by simpa using hl)
  | x :: xs, f, hf, hl, hn, hx => by
    have hp := Pr.pos hP
    have h2 := hP.1
    obtain ⟨hxl, hx0⟩ := hx x (List.mem_cons_self ..)
    obtain ⟨q, hq, e⟩ := val_div' hP (by omega : x ≤ p) f
    rw [hx0, ev_const_zero, Px.add_zero] at e
    have e' : f = prodP' p q (lin p x) := ev_inj hp hf (pol_prod hP hq (pol_lin h2 x)) (by rw [ev_prod]; exact e)
    by_cases h0 : q.length = 0
    · rw [e', prod_nil (.inl h0)]
    · exfalso
      have hl2 := prod_len (p := p) h0 (g := lin p x) (by simp [lin])
      rw [← e'] at hl2
      simp [lin] at hl2 hl
      have hqz := roots_zero hP xs hq (by omega) (List.nodup_cons.1 hn).2 (fun y hy => by
        obtain ⟨hyl, hy0⟩ := hx y (List.mem_cons_of_mem _ hy)
        refine ⟨hyl, ?_⟩
        rw [e', val_prod hP (by omega) hq (pol_lin h2 x)] at hy0
        rcases (fld_of hP).2 _ _ (val_lt hp q y) (val_lt hp _ y) hy0 with h3 | h3
        · exact h3
        · exact absurd h3 (val_lin_ne hP hxl hyl (fun h4 => (List.nodup_cons.1 hn).1 (h4 ▸ hy))))
      rw [hqz] at h0
      exact h0 rfl

/-- Polynomials that agree at as many points as they are long are the same. -/
theorem interp_unique (hP : Pr p) {f g xs : List Nat} (hf : Pol p f) (hg : Pol p g) (hfl : f.length ≤ xs.length) (hgl : g.length ≤ xs.length) (hn : xs.Nodup) (h : ∀ x ∈ xs, x < p ∧ valP p f x = valP p g x) : f = g := by
  have hp := Pr.pos hP
  have h1 := roots_zero hP xs (pol_dif hp f g) (by have := dif_len hp (f := f) (g := g); omega) hn (fun x hx => ⟨(h x hx).1, val_dif hP (by have := (h x hx).1; omega) hf hg (h x hx).2⟩)
  have h2 := ev_dif hp f hg.red
  rw [h1, ev_nil] at h2
  exact ev_inj hp hf hg (Px.sub_eq_zero.1 h2.symm)

end Go.Proofs.YtgcjdojhfimceaaGreat.Q

namespace Go.Proofs.YtgcjdojhfimceaaGreat
namespace Q
variable {p : Nat}

def scaleL (p : Nat) (f : List Nat) (c : Nat) : List Nat := f.map fun x => x * c % p
def scaleP (p : Nat) (f : List Nat) (c : Nat) : List Nat := trim (scaleL p f c)

theorem scaleL_length (p : Nat) (f : List Nat) (c : Nat) : (scaleL p f c).length = f.length := by simp [scaleL]
theorem scaleL_getD (p : Nat) (f : List Nat) (c i : Nat) : (scaleL p f c).getD i 0 = f.getD i 0 * c % p := by
  simp only [scaleL, List.getD_eq_getElem?_getD, List.getElem?_map]
  cases f[i]? <;> simp
theorem scaleL_red (hp : 0 < p) (f : List Nat) (c : Nat) : Red p (scaleL p f c) := by
  intro x hx
  obtain ⟨y, _, rfl⟩ := List.mem_map.1 hx
  exact Nat.mod_lt _ hp
theorem scaleP_pol (hp : 0 < p) (f : List Nat) (c : Nat) : Pol p (scaleP p f c) := (scaleL_red hp f c).trim
theorem scaleP_getD (p : Nat) (f : List Nat) (c i : Nat) : (scaleP p f c).getD i 0 = f.getD i 0 * c % p := by
  rw [scaleP, trim_getD, scaleL_getD]
theorem scaleP_le (p : Nat) (f : List Nat) (c : Nat) : (scaleP p f c).length ≤ f.length := by
  rw [scaleP, trim_length]; exact Nat.le_trans (trimLen_le _) (by rw [scaleL_length]; exact Nat.le_refl _)

theorem sub_mod_eq {a b : Nat} (hp : 2 ≤ p) (hb : b < p) : (a + b * (p - 1) % p) % p = (a + p - b) % p := by
  rw [Nat.add_mod_mod]
  rcases Nat.eq_zero_or_pos b with rfl | h0
  · simp
  · obtain ⟨c, rfl⟩ : ∃ c, b = c + 1 := ⟨b - 1, by omega⟩
    obtain ⟨q, rfl⟩ : ∃ q, p = q + 1 := ⟨p - 1, by omega⟩
    have e : a + (c + 1) * (q + 1 - 1) = (a + (q + 1) - (c + 1)) + c * (q + 1) := by
      rw [show q + 1 - 1 = q by omega, Nat.mul_add, Nat.mul_one, Nat.add_mul, Nat.one_mul]; omega
    rw [e, Nat.add_mul_mod_self_right]

theorem sub_is (hp : 2 ≤ p) (f : List Nat) {g : List Nat} (hg : Red p g) : sumP p f (scaleP p g (p - 1)) = difP p f g := by
  refine (pol_sum (by omega) _ _).ext (pol_dif (by omega) _ _) fun i => ?_
  rw [sum_getD, dif_getD, scaleP_getD]
  exact sub_mod_eq hp (hg.getD (by omega) i)

theorem ev_scale (f : List Nat) (c : Nat) : ev p (scaleP p f c) = ev p f * ev p [c] := by
  rw [Px.mul_comm]
  unfold ev
  rw [Px.mul_of]
  refine Px.eq fun i => ?_
  have h1 : cau (cf [c]) (cf f) i = (c : Int) * cf f i := by
    have h2 : cf [c] = fun k => if k = 0 then (c : Int) else 0 := by
      funext k; rcases k with _ | k <;> simp [cf]
    rw [h2, cau_mono, if_pos (Nat.zero_le _), Nat.sub_zero]
  rw [h1]
  obtain ⟨k, hk⟩ := natmod_eqv p (f.getD i 0 * c)
  refine ⟨k, ?_⟩
  unfold cf
  rw [scaleP_getD, hk, Int.natCast_mul, Int.mul_comm (c : Int)]

theorem scale_monic (hP : M.Pr p) {f : List Nat} (hf : Pol p f) (h0 : f.length ≠ 0) : scaleP p f (invM p (f.getD (f.length - 1) 0)) = monicP p f := by
  have hp : 0 < p := by have := hP.1; omega
  refine ev_inj hp (scaleP_pol hp _ _) (monic_is hP hf h0).1 ?_
  rw [ev_scale, (monic_is hP hf h0).2.2.2.1, monicC, if_neg h0]

theorem takeAway_none {i : Nat} {g rest : List Nat} (hr : Red p rest) : takeAway p 0 i g rest = rest := by
  refine List.ext_getElem (takeAway_length ..) fun k h1 h2 => ?_
  simp only [takeAway, List.getElem_mapIdx]
  split
  · simp only [Nat.sub_zero, Nat.add_mul_mod_self_left]; exact Nat.mod_eq_of_lt (hr _ (List.getElem_mem _))
  · rfl

/-- The reference's division: it takes away also what is zero. -/
def divLoopR (p inv : Nat) (g : List Nat) : Nat → List Nat → List Nat → List Nat × List Nat
  | 0, rest, q => (rest, q)
  | i + 1, rest, q => divLoopR p inv g i (takeAway p (rest.getD (i + (g.length - 1)) 0 * inv % p) i g rest) ((rest.getD (i + (g.length - 1)) 0 * inv % p) :: q)

theorem divLoopR_is (hp : 0 < p) (inv : Nat) (g : List Nat) : ∀ (i : Nat) (rest q : List Nat), Red p rest → divLoopR p inv g i rest q = divLoop p inv g i rest q
  | 0, _, _, _ => rfl
  | i + 1, rest, q, hr => by
    rw [divLoopR, divLoop]
    split
    · next h0 => rw [h0, takeAway_none hr]; exact divLoopR_is hp inv g i _ _ hr
    · exact divLoopR_is hp inv g i _ _ (takeAway_red hp hr)

theorem inv_unique (hP : M.Pr p) {a i : Nat} (ha : a < p) (h0 : a ≠ 0) (hi : i < p) (h : a * i % p = 1) : i = invM p a := by
  obtain ⟨h1, h2, _⟩ := inv_spec hP ha h0
  have e : i * (a * invM p a) % p = invM p a * (a * i) % p := by congr 1; ac_rfl
  rw [Nat.mul_mod, h2, Nat.mul_mod (invM p a), h] at e
  simpa [Nat.mod_eq_of_lt hi, Nat.mod_eq_of_lt h1] using e

end Q
end Go.Proofs.YtgcjdojhfimceaaGreat

namespace Go.Proofs.YtgcjdojhfimceaaGreat
namespace Q
variable {p : Nat}

structure Irr (p : Nat) (f : List Nat) : Prop where
  pol : Pol p f
  two : 2 ≤ f.length
  dv : ∀ d, Pol p d → Dv p d f → d.length = 1 ∨ d.length = f.length

theorem eq_prod (hP : M.Pr p) {f q d : List Nat} (hf : Pol p f) (hq : Pol p q) (hd : Pol p d) (e : ev p f = ev p q * ev p d) : f = prodP' p q d :=
  ev_inj (by have := hP.1; omega) hf (pol_prod hP hq hd) (by rw [ev_prod]; exact e)

theorem Dv.back (hP : M.Pr p) {d f : List Nat} (hd : Pol p d) (hf : Pol p f) (h0 : f.length ≠ 0) (hl : d.length = f.length) (h : Dv p d f) : Dv p f d := by
  obtain ⟨q, hq, e⟩ := h
  have e1 := eq_prod hP hf hq hd e
  have hq0 : q.length ≠ 0 := fun h => by rw [e1, prod_nil (.inl h)] at h0; simp at h0
  have h1 := prod_len (p := p) hq0 (show d.length ≠ 0 by omega)
  rw [← e1] at h1
  obtain ⟨c, rfl⟩ : ∃ c, q = [c] := by
    match q, h1 with
    | [c], _ => exact ⟨c, rfl⟩
    | [], _ => exact absurd rfl hq0
    | _ :: _ :: _, h1 => simp at h1; omega
  have hc : c < p := hq.red c (by simp)
  have hc0 : c ≠ 0 := by have := hq.ne (by simp); simpa using this
  have hi := inv_spec hP hc hc0
  refine ⟨[invM p c], pol_const hi.1 hi.2.2, ?_⟩
  rw [e, ← Px.mul_assoc, ev_const_mul _ _ (by rw [Nat.mul_comm]; exact hi.2.1), Px.one_mul]

theorem mon_len1 {d : List Nat} (h : Mon d) (hl : d.length = 1) : d = [1] := by
  match d, hl with
  | [c], _ => have := h.2; simp at this; rw [this]

theorem Irr.ne {f : List Nat} (h : Irr p f) : f.length ≠ 0 := by have := h.two; omega

theorem Irr.gcd (hP : M.Pr p) {f g : List Nat} (h : Irr p f) (hg : Pol p g) : Dv p f g ∨ gcdP p f g = [1] := by
  have G := gcdP_is hP h.pol hg
  have h0 := h.ne
  have hne : gcdP p f g ≠ [] := fun e => by have := (G.zero.1 e).1; rw [this] at h0; simp at h0
  have hm := G.mon.resolve_left hne
  rcases h.dv _ G.pol G.left with h1 | h1
  · exact .inr (mon_len1 hm h1)
  · exact .inl ((Dv.back hP G.pol h.pol h0 h1 G.left).trans hP G.right)

theorem Irr.bez (hP : M.Pr p) {f g : List Nat} (h : Irr p f) (hg : Pol p g) (hn : ¬ Dv p f g) : ∃ a b, Pol p a ∧ Pol p b ∧ (1 : Px p) = ev p a * ev p f + ev p b * ev p g := by
  obtain ⟨a, b, ha, hb, e⟩ := (gcdP_is hP h.pol hg).comb
  rw [(h.gcd hP hg).resolve_left hn, ev_one] at e
  exact ⟨a, b, ha, hb, e⟩

theorem Irr.prime (hP : M.Pr p) {f g k : List Nat} (h : Irr p f) (hg : Pol p g) (hk : Pol p k) (hd : Dv p f (prodP' p g k)) : Dv p f g ∨ Dv p f k := by
  by_cases hn : Dv p f g
  · exact .inl hn
  · right
    obtain ⟨a, b, ha, hb, e⟩ := h.bez hP hg hn
    obtain ⟨q, hq, e2⟩ := hd
    rw [ev_prod] at e2
    refine ⟨sumP p (prodP' p a k) (prodP' p b q), pol_sum (by have := hP.1; omega) _ _, ?_⟩
    rw [ev_sum, ev_prod, ev_prod, Px.add_mul]
    calc ev p k = (ev p a * ev p f + ev p b * ev p g) * ev p k := by rw [← e, Px.one_mul]
      _ = ev p a * ev p k * ev p f + ev p b * (ev p g * ev p k) := by rw [Px.add_mul]; ac_rfl
      _ = ev p a * ev p k * ev p f + ev p b * ev p q * ev p f := by rw [e2]; ac_rfl

/-- The product of a list of polynomials. -/
def prodL (p : Nat) : List (List Nat) → List Nat
  | [] => [1]
  | f :: l => prodP' p f (prodL p l)

theorem pol_one (hP : M.Pr p) : Pol p [1] := pol_const (by have := hP.1; omega) (by omega)

theorem prodL_pol (hP : M.Pr p) : ∀ {l : List (List Nat)}, (∀ f ∈ l, Pol p f) → Pol p (prodL p l)
  | [], _ => pol_one hP
  | f :: l, h => pol_prod hP (h f (by simp)) (prodL_pol hP fun g hg => h g (by simp [hg]))

theorem ev_prodL_cons (f : List Nat) (l : List (List Nat)) : ev p (prodL p (f :: l)) = ev p f * ev p (prodL p l) := by rw [prodL, ev_prod]

theorem ev_prodL_append : ∀ (l k : List (List Nat)), ev p (prodL p (l ++ k)) = ev p (prodL p l) * ev p (prodL p k)
  | [], k => by rw [List.nil_append, prodL, ev_one, Px.one_mul]
  | f :: l, k => by rw [List.cons_append, ev_prodL_cons, ev_prodL_cons, ev_prodL_append l k, Px.mul_assoc]

theorem ev_prodL_perm {l k : List (List Nat)} (h : l.Perm k) : ev p (prodL p l) = ev p (prodL p k) := by
  induction h with
  | nil => rfl
  | cons x _ ih => rw [ev_prodL_cons, ev_prodL_cons, ih]
  | swap x y l => rw [ev_prodL_cons, ev_prodL_cons, ev_prodL_cons, ev_prodL_cons]; ac_rfl
  | trans _ _ ih1 ih2 => exact ih1.trans ih2

theorem dv_one (hP : M.Pr p) {f : List Nat} (hf : Pol p f) (h : Dv p f [1]) : f.length = 1 := by
  have h1 := h.len hP hf (pol_one hP) (by simp)
  simp at h1; have h2 := h1.2; have h3 := h1.1
  have : f.length ≠ 0 := by simpa using h2
  omega

theorem Irr.dv_prodL (hP : M.Pr p) {f : List Nat} (h : Irr p f) : ∀ {l : List (List Nat)}, (∀ g ∈ l, Pol p g) → Dv p f (prodL p l) → ∃ g ∈ l, Dv p f g
  | [], _, hd => by have := dv_one hP h.pol hd; have := h.two; omega
  | g :: l, hl, hd => by
    rcases h.prime hP (hl g (by simp)) (prodL_pol hP fun k hk => hl k (by simp [hk])) hd with h1 | h1
    · exact ⟨g, by simp, h1⟩
    · obtain ⟨k, hk, h2⟩ := h.dv_prodL hP (fun k hk => hl k (by simp [hk])) h1
      exact ⟨k, by simp [hk], h2⟩

theorem dv_prodL_mem (hP : M.Pr p) {l : List (List Nat)} (hl : ∀ g ∈ l, Pol p g) {g : List Nat} (hg : g ∈ l) : Dv p g (prodL p l) := by
  obtain ⟨s, t, rfl⟩ := List.append_of_mem hg
  have hpol : Pol p (prodL p (s ++ t)) := prodL_pol hP fun k hk => hl k (by simp at hk ⊢; rcases hk with h | h <;> simp [h])
  refine ⟨prodL p (s ++ t), hpol, ?_⟩
  rw [ev_prodL_append, ev_prodL_append, ev_prodL_cons]; ac_rfl

/-- Monic and irreducible. -/
structure MIrr (p : Nat) (f : List Nat) : Prop where
  irr : Irr p f
  mon : Mon f

theorem MIrr.eq (hP : M.Pr p) {f g : List Nat} (hf : MIrr p f) (hg : MIrr p g) (h : Dv p f g) : f = g := by
  rcases hg.irr.dv f hf.irr.pol h with h1 | h1
  · have := hf.irr.two; omega
  · exact mon_unique hP hf.irr.pol hg.irr.pol hf.mon hg.mon h (Dv.back hP hf.irr.pol hg.irr.pol hg.irr.ne h1 h)

theorem ev_ne (hP : M.Pr p) {f : List Nat} (hf : Pol p f) (h0 : f.length ≠ 0) : ev p f ≠ 0 := fun e => by
  have := (ev_zero_iff (by have := hP.1; omega) hf).1 e
  rw [this] at h0; simp at h0

theorem MIrr.cancel (hP : M.Pr p) {f a b : List Nat} (hf : Irr p f) (ha : Pol p a) (hb : Pol p b) (e : ev p f * ev p a = ev p f * ev p b) : a = b :=
  mul_cancel hP ha hb hf.pol (fun e => by have := hf.ne; rw [e] at this; simp at this) (by rw [Px.mul_comm, e, Px.mul_comm])

/-- Unique factorization. -/
theorem fac_perm (hP : M.Pr p) : ∀ {l k : List (List Nat)}, (∀ f ∈ l, MIrr p f) → (∀ f ∈ k, MIrr p f) → ev p (prodL p l) = ev p (prodL p k) → l.Perm k
  | [], [], _, _, _ => .nil
  | [], g :: k, _, hk, e => by
    exfalso
    have h1 := dv_prodL_mem hP (fun f hf => (hk f hf).irr.pol) (List.mem_cons_self (a := g) (l := k))
    obtain ⟨q, hq, e1⟩ := h1
    have := dv_one hP (hk g (by simp)).irr.pol ⟨q, hq, by rw [← e1, ← e]; rfl⟩
    have := (hk g (by simp)).irr.two
    omega
  | f :: l, k, hl, hk, e => by
    have hf := hl f (by simp)
    have h1 : Dv p f (prodL p k) := by
      obtain ⟨q, hq, e1⟩ := dv_prodL_mem hP (fun f hf => (hl f hf).irr.pol) (List.mem_cons_self (a := f) (l := l))
      exact ⟨q, hq, by rw [← e, e1]⟩
    obtain ⟨g, hg, h2⟩ := hf.irr.dv_prodL hP (fun g hg => (hk g hg).irr.pol) h1
    obtain rfl := hf.eq hP (hk g hg) h2
    obtain ⟨s, t, rfl⟩ := List.append_of_mem hg
    have hst : ∀ x ∈ s ++ t, MIrr p x := fun x hx => hk x (by simp at hx ⊢; rcases hx with h | h <;> simp [h])
    have h3 : prodL p l = prodL p (s ++ t) := by
      refine MIrr.cancel hP hf.irr (prodL_pol hP fun x hx => (hl x (by simp [hx])).irr.pol) (prodL_pol hP fun x hx => (hst x hx).irr.pol) ?_
      rw [← ev_prodL_cons, e, ev_prodL_append, ev_prodL_cons, ev_prodL_append]; ac_rfl
    have h4 := fac_perm hP (fun x hx => hl x (by simp [hx])) hst (congrArg (ev p) h3)
    exact (h4.cons f).trans List.perm_middle.symm

/-- Every polynomial of at least degree 1 has an irreducible divisor. -/
theorem exists_irr (hP : M.Pr p) : ∀ (n : Nat) {f : List Nat}, f.length ≤ n → Pol p f → 2 ≤ f.length → ∃ g, MIrr p g ∧ Dv p g f
  | 0, f, h, _, h2 => by omega
  | n + 1, f, h, hf, h2 => by
    by_cases hi : Irr p f
    · have hm := monic_is hP hf (by omega)
      refine ⟨monicP p f, ⟨⟨hm.1, by omega, fun d hd hdv => ?_⟩, hm.2.1⟩, hm.2.2.2.2.2⟩
      rw [hm.2.2.1]
      exact hi.dv d hd (hdv.trans hP hm.2.2.2.2.2)
    · obtain ⟨d, hd, hdv, h1⟩ : ∃ d, Pol p d ∧ Dv p d f ∧ ¬ (d.length = 1 ∨ d.length = f.length) := by
        refine Classical.byContradiction fun hc => hi ⟨hf, h2, fun d hd hdv => Classical.byContradiction fun h3 => hc ⟨d, hd, hdv, h3⟩⟩
      have h3 := hdv.len hP hd hf (by omega)
      obtain ⟨g, hg, hgd⟩ := exists_irr hP n (show d.length ≤ n by omega) hd (by omega)
      exact ⟨g, hg, hgd.trans hP hdv⟩

theorem mon_prod (hP : M.Pr p) {f g : List Nat} (hf : Pol p f) (hg : Pol p g) (mf : Mon f) (mg : Mon g) : Mon (prodP' p f g) := by
  have h1 := prod_len (p := p) mf.1 mg.1
  have h0 := mf.1
  have h0' := mg.1
  refine ⟨by omega, ?_⟩
  have h2 := prod_getD p f g (f.length + g.length - 2)
  rw [cau_top mf.1 mg.1] at h2
  unfold cf at h2
  rw [mf.2, mg.2] at h2
  rw [show (prodP' p f g).length - 1 = f.length + g.length - 2 by have := mf.1; have := mg.1; omega]
  have h3 : (1 : Int) % (p : Int) = 1 := Int.emod_eq_of_lt (by omega) (by have := hP.1; omega)
  simp only [Int.natCast_one, Int.one_mul] at h2
  rw [h3] at h2
  exact_mod_cast h2

theorem mon_cofactor (hP : M.Pr p) {f g q : List Nat} (hg : Pol p g) (hq : Pol p q) (mf : Mon f) (mg : Mon g) (e : f = prodP' p q g) : Mon q := by
  have hq0 : q.length ≠ 0 := fun h => by have := mf.1; rw [e, prod_nil (.inl h)] at this; simp at this
  refine ⟨hq0, ?_⟩
  have h1 := prod_len (p := p) hq0 mg.1
  have h2 := prod_getD p q g (q.length + g.length - 2)
  rw [cau_top hq0 mg.1] at h2
  unfold cf at h2
  rw [mg.2, ← e, show q.length + g.length - 2 = f.length - 1 by rw [← e] at h1; omega, mf.2] at h2
  have h4 := hq.red.getD (by have := hP.1; omega) (q.length - 1)
  rw [Int.natCast_one, Int.mul_one, Int.emod_eq_of_lt (by omega) (by omega)] at h2
  exact_mod_cast h2.symm

/-- Every monic polynomial is a product of irreducible ones. -/
theorem exists_fac (hP : M.Pr p) : ∀ (n : Nat) {f : List Nat}, f.length ≤ n → Pol p f → Mon f → ∃ l, (∀ g ∈ l, MIrr p g) ∧ ev p f = ev p (prodL p l)
  | 0, f, h, _, m => by have := m.1; omega
  | n + 1, f, h, hf, m => by
    by_cases h1 : f.length = 1
    · exact ⟨[], by simp, by rw [mon_len1 m h1]; rfl⟩
    · obtain ⟨g, hg, q, hq, e⟩ := exists_irr hP f.length (Nat.le_refl _) hf (by have := m.1; omega)
      have e1 := eq_prod hP hf hq hg.irr.pol e
      have mq := mon_cofactor hP hg.irr.pol hq m hg.mon e1
      have h2 := prod_len (p := p) mq.1 hg.irr.ne
      rw [← e1] at h2
      have h3 := hg.irr.two
      obtain ⟨l, hl, e2⟩ := exists_fac hP n (show q.length ≤ n by omega) hq mq
      exact ⟨g :: l, fun x hx => (List.mem_cons.1 hx).elim (fun h => h ▸ hg) (hl x), by rw [ev_prodL_cons, e, e2, Px.mul_comm]⟩

end Q
end Go.Proofs.YtgcjdojhfimceaaGreat

namespace Go.Proofs.YtgcjdojhfimceaaGreat
namespace Q
variable {p : Nat}

theorem val_trim (hP : M.Pr p) {a : Nat} (ha : a ≤ p) {f : List Nat} (hf : Red p f) : valP p (trim f) a = valP p f a := by
  obtain ⟨q, hq, e⟩ := val_div' hP ha f
  exact val_of hP ha (val_lt (by have := hP.1; omega) f a) hf.trim hq (by rw [ev_trim]; exact e)

theorem val_scale (hP : M.Pr p) {a : Nat} (ha : a ≤ p) (f : List Nat) (c : Nat) : valP p (scaleP p f c) a = valP p f a * c % p := by
  have hp : 0 < p := by have := hP.1; omega
  obtain ⟨q, hq, e⟩ := val_div' hP ha f
  refine val_of hP ha (Nat.mod_lt _ hp) (scaleP_pol hp f c) (q := scaleP p q c) (scaleP_pol hp q c) ?_
  rw [ev_scale, ev_scale, e, Px.add_mul, ev_const_congr (c := valP p f a * c % p) (d := valP p f a * c) (Nat.mod_mod _ _), ← ev_const_mul']
  ac_rfl

theorem val_const (hp : 0 < p) (c a : Nat) (h : c < p) : valP p [c] a = c := by
  simp [valP, Nat.mod_eq_of_lt h]

theorem mul_ne (hP : M.Pr p) {a b : Nat} (ha : a < p) (hb : b < p) (h1 : a ≠ 0) (h2 : b ≠ 0) : a * b % p ≠ 0 := fun h => by
  rcases (fld_of hP).2 a b ha hb h with h | h
  · exact h1 h
  · exact h2 h

/-! ### The program's way -/
/-- One more point. -/
def thrStep (p : Nat) (f z : List Nat) (x y : Nat) : List Nat × List Nat :=
  let t := (y + p - valP p f x) * invM p (valP p z x) % p
  (sumP p f (trim (prodP' p z [t])), prodP' p z (lin p x))

structure Thr (p : Nat) (L : List (Nat × Nat)) (f z : List Nat) : Prop where
  fpol : Pol p f
  zpol : Pol p z
  flen : f.length ≤ L.length
  zlen : z.length = L.length + 1
  fval : ∀ q ∈ L, valP p f q.1 = q.2
  zval : ∀ q ∈ L, valP p z q.1 = 0
  zno : ∀ x, x < p → (∀ q ∈ L, q.1 ≠ x) → valP p z x ≠ 0

theorem Thr.start (hP : M.Pr p) : Thr p [] [] [1] where
  fpol := Pol.nil p
  zpol := pol_const (by have := hP.1; omega) (by omega)
  flen := by simp
  zlen := rfl
  fval := by simp
  zval := by simp
  zno := fun x _ _ => by rw [val_const (by have := hP.1; omega) 1 x (by have := hP.1; omega)]; omega

theorem Thr.step (hP : M.Pr p) {L : List (Nat × Nat)} {f z : List Nat} (h : Thr p L f z) (hL : ∀ q ∈ L, q.1 < p) {x y : Nat} (hx : x < p) (hy : y < p) (hn : ∀ q ∈ L, q.1 ≠ x) :
    Thr p (L ++ [(x, y)]) (thrStep p f z x y).1 (thrStep p f z x y).2 := by
  have h2 := hP.1
  have hp : 0 < p := by omega
  obtain ⟨t, ht⟩ : ∃ t, t = (y + p - valP p f x) * invM p (valP p z x) % p := ⟨_, rfl⟩
  have htp : t < p := by rw [ht]; exact Nat.mod_lt _ hp
  have hv := val_lt hp f x
  have hz := val_lt hp z x
  have hz0 := h.zno x hx hn
  have hinv := inv_spec hP hz hz0
  have htr : trim (prodP' p z [t]) = prodP' p z (trim [t]) ∨ t = 0 := by
    by_cases h0 : t = 0
    · exact .inr h0
    · left
      rw [trim_of_pol (pol_const htp h0), trim_of_pol (pol_prod hP h.zpol (pol_const htp h0))]
  have hTpol : Pol p (trim (prodP' p z [t])) := (red_prod hp _ _).trim
  have hTval : ∀ a, a < p → valP p (trim (prodP' p z [t])) a = valP p z a * t % p := fun a ha => by
    rcases htr with e | e
    · rw [e, val_prod hP (by omega) h.zpol (pol_trim1 hp t htp), val_trim hP (by omega) (by intro x hx; simp at hx; omega), val_const hp t a htp]
    · rw [val_trim hP (by omega) (red_prod hp _ _), e]
      obtain ⟨q, hq, ee⟩ := val_div' hP (show a ≤ p by omega) (prodP' p z [0])
      have e0 : ev p (prodP' p z [0]) = 0 := by rw [ev_prod, ev_const_zero, Px.mul_zero]
      have h3 := val_of hP (show a ≤ p by omega) (val_lt hp (prodP' p z [0]) a) (Pol.nil p) hq (by rw [ev_nil, ← e0]; exact ee)
      rw [← h3]
      simp [valP]
  have hTlen : (trim (prodP' p z [t])).length ≤ L.length + 1 := by
    have h3 := trimLen_le (prodP' p z [t])
    have h4 : (prodP' p z [t]).length = z.length := by
      rw [prod_length (by rw [h.zlen]; omega) (by simp)]; simp
    rw [trim_length, ← h.zlen]; omega
  have hlin := pol_lin (p := p) h2 x
  have e1 : (thrStep p f z x y).1 = sumP p f (trim (prodP' p z [t])) := by rw [ht]; rfl
  have e2 : (thrStep p f z x y).2 = prodP' p z (lin p x) := rfl
  rw [e1, e2]
  refine ⟨pol_sum hp _ _, pol_prod hP h.zpol hlin, ?_, ?_, ?_, ?_, ?_⟩
  · have h3 := sum_len hp (f := f) (g := trim (prodP' p z [t]))
    have h4 := h.flen
    simp; omega
  · have h3 := prod_len (p := p) (f := z) (g := lin p x) (by rw [h.zlen]; omega) (by simp [lin])
    have h4 := h.zlen
    simp [lin] at h3 ⊢; omega
  · intro q hq
    rw [List.mem_append] at hq
    rcases hq with hq | hq
    · have hqp := hL q hq
      rw [val_sum hP (by omega), hTval _ hqp, h.zval q hq, h.fval q hq, Nat.zero_mul, Nat.zero_mod, Nat.add_zero, Nat.mod_eq_of_lt]
      rw [← h.fval q hq]; exact val_lt hp _ _
    · simp at hq
      subst hq
      simp only
      rw [val_sum hP (by omega), hTval _ hx, ht, Nat.add_mod_mod]
      have e3 : valP p z x * ((y + p - valP p f x) * invM p (valP p z x) % p) % p = (y + p - valP p f x) % p := by
        rw [Nat.mul_mod_mod, show valP p z x * ((y + p - valP p f x) * invM p (valP p z x)) = (y + p - valP p f x) * (valP p z x * invM p (valP p z x)) by ac_rfl, Nat.mul_mod, hinv.2.1, Nat.mul_one, Nat.mod_mod]
      rw [Nat.add_mod, e3, ← Nat.add_mod, show valP p f x + (y + p - valP p f x) = y + p by omega, Nat.add_mod_right, Nat.mod_eq_of_lt hy]
  · intro q hq
    rw [List.mem_append] at hq
    rcases hq with hq | hq
    · have hqp := hL q hq
      rw [val_prod hP (by omega) h.zpol hlin, h.zval q hq, Nat.zero_mul, Nat.zero_mod]
    · simp at hq
      subst hq
      simp only
      rw [val_prod hP (by omega) h.zpol hlin, val_lin hP (by omega) hx, show x + (p - x) = p by omega, Nat.mod_self, Nat.mul_zero, Nat.zero_mod]
  · intro u hu hnu
    rw [val_prod hP (by omega) h.zpol hlin]
    have h3 := h.zno u hu (fun q hq => hnu q (List.mem_append_left _ hq))
    have h4 := val_lin_ne hP hx hu (fun e => hnu (x, y) (List.mem_append_right _ (by simp)) e.symm)
    exact mul_ne hP (val_lt hp _ _) (val_lt hp _ _) h3 h4

def xAt (L : List (Nat × Nat)) (i : Nat) : Nat := (L.getD i (0, 0)).1
def yAt (L : List (Nat × Nat)) (i : Nat) : Nat := (L.getD i (0, 0)).2

/-- Good points. -/
structure Pts (p : Nat) (L : List (Nat × Nat)) : Prop where
  xs : ∀ i, i < L.length → xAt L i < p
  ys : ∀ i, i < L.length → yAt L i < p
  ne : ∀ i k, i < L.length → k < i → xAt L k ≠ xAt L i

/-- The program's polynomial and its zero behind k points. -/
def thrAt (p : Nat) (L : List (Nat × Nat)) : Nat → List Nat × List Nat
  | 0 => ([], [1])
  | k + 1 => thrStep p (thrAt p L k).1 (thrAt p L k).2 (xAt L k) (yAt L k)

theorem take_succ_pt {L : List (Nat × Nat)} {k : Nat} (h : k < L.length) : L.take (k + 1) = L.take k ++ [(xAt L k, yAt L k)] := by
  have e : (xAt L k, yAt L k) = L[k] := by simp [xAt, yAt, List.getD_eq_getElem?_getD, List.getElem?_eq_getElem h]
  rw [e, List.take_succ_eq_append_getElem h]

theorem mem_take_pt {L : List (Nat × Nat)} {k : Nat} {q : Nat × Nat} (h : q ∈ L.take k) : ∃ i, i < k ∧ i < L.length ∧ q.1 = xAt L i ∧ q.2 = yAt L i := by
  obtain ⟨i, h1, h2⟩ := List.mem_iff_getElem.1 h
  rw [List.length_take] at h1
  refine ⟨i, by omega, by omega, ?_, ?_⟩ <;> (rw [List.getElem_take] at h2; simp [xAt, yAt, List.getD_eq_getElem?_getD, List.getElem?_eq_getElem (show i < L.length by omega), h2])

theorem thrAt_is (hP : M.Pr p) {L : List (Nat × Nat)} (hL : Pts p L) : ∀ k, k ≤ L.length → Thr p (L.take k) (thrAt p L k).1 (thrAt p L k).2
  | 0, _ => by rw [List.take_zero]; exact Thr.start hP
  | k + 1, h => by
    rw [take_succ_pt (by omega)]
    refine (thrAt_is hP hL k (by omega)).step hP ?_ (hL.xs k (by omega)) (hL.ys k (by omega)) ?_
    · intro q hq
      obtain ⟨i, h1, h2, h3, _⟩ := mem_take_pt hq
      rw [h3]; exact hL.xs i h2
    · intro q hq
      obtain ⟨i, h1, h2, h3, _⟩ := mem_take_pt hq
      rw [h3]; exact hL.ne k i (by omega) h1

/-- A polynomial with the points' values is the program's. -/
theorem thr_unique (hP : M.Pr p) {L : List (Nat × Nat)} (hL : Pts p L) {g : List Nat} (hg : Pol p g) (hl : g.length ≤ L.length) (hv : ∀ i, i < L.length → valP p g (xAt L i) = yAt L i) : g = (thrAt p L L.length).1 := by
  have T := thrAt_is hP hL L.length (Nat.le_refl _)
  rw [List.take_length] at T
  have hx : ∀ (n : Nat), ((List.range n).map (xAt L)).length = n := by simp
  refine interp_unique hP (xs := (List.range L.length).map (xAt L)) hg T.fpol (by rw [hx]; exact hl) (by rw [hx]; exact T.flen) ?_ ?_
  · refine List.pairwise_iff_getElem.2 fun i j hi hj hij => ?_
    simp at hi hj ⊢
    exact hL.ne j i hj hij
  · intro x hx
    obtain ⟨i, hi, rfl⟩ := List.mem_map.1 hx
    have hi' := List.mem_range.1 hi
    refine ⟨hL.xs i hi', ?_⟩
    rw [hv i hi']
    have hm : L[i] ∈ L := List.getElem_mem hi'
    have h3 := T.fval L[i] hm
    have e1 : xAt L i = L[i].1 := by simp [xAt, List.getD_eq_getElem?_getD, List.getElem?_eq_getElem hi']
    have e2 : yAt L i = L[i].2 := by simp [yAt, List.getD_eq_getElem?_getD, List.getElem?_eq_getElem hi']
    rw [e1, e2, h3]

/-! ### The reference's way -/
def lagT (p : Nat) (L : List (Nat × Nat)) (i : Nat) : Nat → List Nat
  | 0 => [yAt L i]
  | k + 1 => if k = i then lagT p L i k else prodP' p (trim (lagT p L i k)) (lin p (xAt L k))
def lagB (p : Nat) (L : List (Nat × Nat)) (i : Nat) : Nat → Nat
  | 0 => 1
  | k + 1 => if k = i then lagB p L i k else lagB p L i k * (xAt L i + p - xAt L k) % p

theorem lagT_red (hp : 0 < p) {L : List (Nat × Nat)} {i : Nat} (hy : yAt L i < p) : ∀ k, Red p (lagT p L i k)
  | 0 => by intro x hx; simp [lagT] at hx; omega
  | k + 1 => by
    rw [lagT]; split
    · exact lagT_red hp hy k
    · exact red_prod hp _ _

theorem lagT_len {L : List (Nat × Nat)} {i : Nat} : ∀ k, (lagT p L i k).length ≤ k + 1 - (if i < k then 1 else 0)
  | 0 => by simp [lagT]
  | k + 1 => by
    have ih := lagT_len (L := L) (i := i) k
    rw [lagT]
    split
    · next h => subst h; rw [if_pos (by omega)]; rw [if_neg (by omega)] at ih; omega
    · next h =>
      have h1 := trimLen_le (lagT p L i k)
      rw [← trim_length] at h1
      by_cases h0 : (trim (lagT p L i k)).length = 0
      · rw [prod_nil (.inl h0)]; simp
      · rw [prod_length h0 (by simp [lin])]
        simp only [lin, List.length_cons, List.length_nil]
        by_cases hik : i < k
        · rw [if_pos hik] at ih; rw [if_pos (by omega)]; omega
        · rw [if_neg hik] at ih; rw [if_neg (by omega)]; omega

theorem lagB_lt (h2 : 2 ≤ p) {L : List (Nat × Nat)} {i : Nat} : ∀ k, lagB p L i k < p
  | 0 => by simp [lagB]; omega
  | k + 1 => by
    rw [lagB]; split
    · exact lagB_lt h2 k
    · exact Nat.mod_lt _ (by omega)

theorem lagB_ne (hP : M.Pr p) {L : List (Nat × Nat)} (hL : Pts p L) {i : Nat} (hi : i < L.length) : ∀ k, k ≤ L.length → lagB p L i k ≠ 0
  | 0, _ => by simp [lagB]
  | k + 1, h => by
    have h2 := hP.1
    rw [lagB]; split
    · exact lagB_ne hP hL hi k (by omega)
    · next hne =>
      have h3 := lagB_ne hP hL hi k (by omega)
      have h4 := hL.xs i hi
      have h5 := hL.xs k (by omega)
      have h6 : xAt L k ≠ xAt L i := by
        rcases Nat.lt_or_ge k i with h7 | h7
        · exact hL.ne i k hi h7
        · exact (hL.ne k i (by omega) (by omega)).symm
      rw [← Nat.mul_mod_mod]
      refine mul_ne hP (lagB_lt h2 k) (Nat.mod_lt _ (by omega)) h3 fun h0 => ?_
      rcases Nat.lt_or_ge (xAt L i) (xAt L k) with h7 | h7
      · rw [Nat.mod_eq_of_lt (by omega)] at h0; omega
      · rw [show xAt L i + p - xAt L k = (xAt L i - xAt L k) + p by omega, Nat.add_mod_right, Nat.mod_eq_of_lt (by omega)] at h0; omega

theorem lagT_val (hP : M.Pr p) {L : List (Nat × Nat)} (hL : Pts p L) {i : Nat} (hi : i < L.length) : ∀ k, k ≤ L.length → valP p (lagT p L i k) (xAt L i) = yAt L i * lagB p L i k % p
  | 0, _ => by
    have := hL.ys i hi
    rw [lagT, lagB, val_const (by have := hP.1; omega) _ _ this, Nat.mul_one, Nat.mod_eq_of_lt this]
  | k + 1, h => by
    have h2 := hP.1
    have ih := lagT_val hP hL hi k (by omega)
    rw [lagT, lagB]; split
    · exact ih
    · have h4 := hL.xs i hi
      have h5 := hL.xs k (by omega)
      have hr := lagT_red (p := p) (by omega) (hL.ys i hi) k
      rw [val_prod hP (by omega) hr.trim (pol_lin h2 _), val_trim hP (by omega) hr, ih, val_lin hP (by omega) h4]
      rw [← Nat.mul_mod, show xAt L i + (p - xAt L k) = xAt L i + p - xAt L k by omega, Nat.mul_mod_mod]
      congr 1
      rw [Nat.mul_assoc]

theorem lagT_zero (hP : M.Pr p) {L : List (Nat × Nat)} (hL : Pts p L) {i j : Nat} (hi : i < L.length) (hj : j < L.length) (hij : j ≠ i) : ∀ k, k ≤ L.length → j < k → valP p (lagT p L i k) (xAt L j) = 0
  | 0, _, h => by omega
  | k + 1, h, hk => by
    have h2 := hP.1
    have hxj := hL.xs j hj
    have hr := lagT_red (p := p) (by omega) (hL.ys i hi) k
    rw [lagT]; split
    · next e => exact lagT_zero hP hL hi hj hij k (by omega) (by omega)
    · next e =>
      have h5 := hL.xs k (by omega)
      rw [val_prod hP (by omega) hr.trim (pol_lin h2 _), val_trim hP (by omega) hr]
      by_cases hjk : j = k
      · subst hjk
        rw [val_lin hP (by omega) hxj, show xAt L j + (p - xAt L j) = p by omega, Nat.mod_self, Nat.mul_zero, Nat.zero_mod]
      · rw [lagT_zero hP hL hi hj hij k (by omega) (by omega), Nat.zero_mul, Nat.zero_mod]

def lagS (p : Nat) (L : List (Nat × Nat)) : Nat → List Nat
  | 0 => []
  | i + 1 => sumP p (lagS p L i) (scaleP p (lagT p L i L.length) (invM p (lagB p L i L.length)))

theorem lagS_pol (hp : 0 < p) (L : List (Nat × Nat)) : ∀ i, Pol p (lagS p L i)
  | 0 => Pol.nil p
  | _ + 1 => pol_sum hp _ _

theorem lagS_len (hp : 0 < p) (L : List (Nat × Nat)) : ∀ i, i ≤ L.length → (lagS p L i).length ≤ L.length
  | 0, _ => by simp [lagS]
  | i + 1, h => by
    have h1 := lagS_len hp L i (by omega)
    have h2 := sum_len hp (f := lagS p L i) (g := scaleP p (lagT p L i L.length) (invM p (lagB p L i L.length)))
    have h3 := scaleP_le p (lagT p L i L.length) (invM p (lagB p L i L.length))
    have h4 := lagT_len (p := p) (L := L) (i := i) L.length
    rw [if_pos (by omega)] at h4
    rw [lagS]; omega

theorem lagS_val (hP : M.Pr p) {L : List (Nat × Nat)} (hL : Pts p L) {j : Nat} (hj : j < L.length) : ∀ i, i ≤ L.length → valP p (lagS p L i) (xAt L j) = if j < i then yAt L j else 0
  | 0, _ => by simp [lagS, valP]
  | i + 1, h => by
    have h2 := hP.1
    have hxj := hL.xs j hj
    have hyj := hL.ys j hj
    have ih := lagS_val hP hL hj i (by omega)
    rw [lagS, val_sum hP (by omega), ih, val_scale hP (by omega)]
    by_cases hji : j = i
    · subst hji
      rw [if_neg (by omega), if_pos (by omega), Nat.zero_add, Nat.mod_mod, lagT_val hP hL hj _ (Nat.le_refl _)]
      have hB := inv_spec hP (lagB_lt h2 (L := L) (i := j) L.length) (lagB_ne hP hL hj _ (Nat.le_refl _))
      rw [Nat.mod_mul_mod, Nat.mul_assoc, Nat.mul_mod, hB.2.1, Nat.mul_one, Nat.mod_mod, Nat.mod_eq_of_lt hyj]
    · rw [lagT_zero hP hL (by omega) hj hji _ (Nat.le_refl _) hj, Nat.zero_mul, Nat.zero_mod, Nat.add_zero]
      by_cases h3 : j < i
      · rw [if_pos h3, if_pos (by omega), Nat.mod_eq_of_lt hyj]
      · rw [if_neg h3, if_neg (by omega), Nat.zero_mod]

theorem lag_is (hP : M.Pr p) {L : List (Nat × Nat)} (hL : Pts p L) : lagS p L L.length = (thrAt p L L.length).1 := by
  have hp : 0 < p := by have := hP.1; omega
  refine thr_unique hP hL (lagS_pol hp L _) (lagS_len hp L _ (Nat.le_refl _)) fun i hi => ?_
  rw [lagS_val hP hL hi _ (Nat.le_refl _), if_pos hi]

end Q
end Go.Proofs.YtgcjdojhfimceaaGreat

namespace Go.Proofs.YtgcjdojhfimceaaGreat
namespace Q
variable {p : Nat}

def pw (a : Px p) : Nat → Px p
  | 0 => 1
  | n + 1 => pw a n * a

theorem pw_zero (a : Px p) : pw a 0 = 1 := rfl
theorem pw_succ (a : Px p) (n : Nat) : pw a (n + 1) = pw a n * a := rfl
theorem pw_one (a : Px p) : pw a 1 = a := by rw [pw_succ, pw_zero, Px.one_mul]
theorem pw_add (a : Px p) (m : Nat) : ∀ n, pw a (m + n) = pw a m * pw a n
  | 0 => by rw [Nat.add_zero, pw_zero, Px.mul_one]
  | n + 1 => by rw [← Nat.add_assoc, pw_succ, pw_add a m n, pw_succ, Px.mul_assoc]
theorem pw_mul (a b : Px p) : ∀ n, pw (a * b) n = pw a n * pw b n
  | 0 => by rw [pw_zero, pw_zero, pw_zero, Px.one_mul]
  | n + 1 => by rw [pw_succ, pw_succ, pw_succ, pw_mul a b n]; ac_rfl
theorem pw_pw (a : Px p) (m : Nat) : ∀ n, pw (pw a m) n = pw a (m * n)
  | 0 => rfl
  | n + 1 => by rw [pw_succ, pw_pw a m n, Nat.mul_succ, pw_add]
theorem pw_zero' {n : Nat} (h : n ≠ 0) : pw (0 : Px p) n = 0 := by
  obtain ⟨k, rfl⟩ : ∃ k, n = k + 1 := ⟨n - 1, by omega⟩
  rw [pw_succ, Px.mul_zero]
theorem pw_const (c : Nat) : ∀ n, pw (ev p [c]) n = ev p [c ^ n]
  | 0 => by rw [pw_zero, Nat.pow_zero, ev_one]
  | n + 1 => by rw [pw_succ, pw_const c n, ev_const_mul', Nat.pow_succ]

/-- A sum of n elements. -/
def sx : Nat → (Nat → Px p) → Px p
  | 0, _ => 0
  | n + 1, F => sx n F + F n
theorem sx_congr {n : Nat} {F G : Nat → Px p} (h : ∀ i, i < n → F i = G i) : sx n F = sx n G := by
  induction n with
  | zero => rfl
  | succ n ih => rw [sx, sx, ih fun i hi => h i (by omega), h n (by omega)]
theorem sx_zero {n : Nat} {F : Nat → Px p} (h : ∀ i, i < n → F i = 0) : sx n F = 0 := by
  induction n with
  | zero => rfl
  | succ n ih => rw [sx, ih fun i hi => h i (by omega), h n (by omega), Px.add_zero]
theorem sx_add (n : Nat) (F G : Nat → Px p) : sx n (fun i => F i + G i) = sx n F + sx n G := by
  induction n with
  | zero => rw [sx, sx, sx, Px.add_zero]
  | succ n ih => rw [sx, sx, sx, ih]; ac_rfl
theorem sx_mul (n : Nat) (c : Px p) (F : Nat → Px p) : sx n (fun i => c * F i) = c * sx n F := by
  induction n with
  | zero => rw [sx, sx, Px.mul_zero]
  | succ n ih => rw [sx, sx, ih, Px.mul_add]
theorem sx_head (n : Nat) (F : Nat → Px p) : sx (n + 1) F = F 0 + sx n fun i => F (i + 1) := by
  induction n with
  | zero => rw [sx, sx, sx, Px.zero_add, Px.add_zero]
  | succ n ih => rw [sx, ih, sx, Px.add_assoc]

def chs : Nat → Nat → Nat
  | _, 0 => 1
  | 0, _ + 1 => 0
  | n + 1, k + 1 => chs n k + chs n (k + 1)
theorem chs_zero (n : Nat) : chs n 0 = 1 := by cases n <;> rfl
theorem chs_out : ∀ (n k : Nat), n < k → chs n k = 0
  | _, 0, h => by omega
  | 0, _ + 1, _ => rfl
  | n + 1, k + 1, h => by rw [chs, chs_out n k (by omega), chs_out n (k + 1) (by omega)]
theorem chs_self : ∀ n, chs n n = 1
  | 0 => rfl
  | n + 1 => by rw [chs, chs_self n, chs_out n (n + 1) (by omega)]
theorem chs_mul : ∀ (n k : Nat), (k + 1) * chs (n + 1) (k + 1) = (n + 1) * chs n k
  | 0, 0 => rfl
  | 0, k + 1 => by rw [chs_out 0 (k + 1) (by omega), chs_out (0 + 1) (k + 1 + 1) (by omega)]; simp
  | n + 1, 0 => by
    have h := chs_mul n 0
    have e : chs (n + 1 + 1) (0 + 1) = chs (n + 1) 0 + chs (n + 1) (0 + 1) := rfl
    rw [chs_zero] at h
    rw [e, chs_zero, Nat.mul_add, h]; omega
  | n + 1, k + 1 => by
    have h1 := chs_mul n k
    have h2 := chs_mul n (k + 1)
    have e : chs (n + 2) (k + 2) = chs (n + 1) (k + 1) + chs (n + 1) (k + 2) := rfl
    have e2 : chs (n + 1) (k + 1) = chs n k + chs n (k + 1) := rfl
    rw [e, Nat.mul_add, h2, show (k + 1 + 1) * chs (n + 1) (k + 1) = (k + 1) * chs (n + 1) (k + 1) + chs (n + 1) (k + 1) by rw [Nat.add_mul (k + 1), Nat.one_mul], h1, Nat.add_mul (n + 1) 1, Nat.one_mul, e2, Nat.mul_add]
    omega
theorem chs_prime (hP : M.Pr p) {k : Nat} (h0 : k ≠ 0) (h : k < p) : p ∣ chs p k := by
  obtain ⟨j, rfl⟩ : ∃ j, k = j + 1 := ⟨k - 1, by omega⟩
  obtain ⟨q, hq⟩ : ∃ q, p = q + 1 := ⟨p - 1, by omega⟩
  have h1 := chs_mul q j
  rw [← hq] at h1
  rcases hP.dvd_mul (⟨_, h1⟩ : p ∣ (j + 1) * chs p (j + 1)) with h2 | h2
  · exact absurd h2 (M.not_dvd_of_lt (by omega) h)
  · exact h2

theorem binomial (a b : Px p) : ∀ n, pw (a + b) n = sx (n + 1) fun k => ev p [chs n k] * (pw a k * pw b (n - k))
  | 0 => by rw [pw_zero, sx, sx, chs_zero, ev_one, pw_zero, pw_zero, Px.one_mul, Px.one_mul, Px.zero_add]
  | n + 1 => by
    rw [pw_succ, binomial a b n, Px.mul_add, Px.mul_comm _ a, Px.mul_comm _ b, ← sx_mul, ← sx_mul]
    rw [sx_head (n + 1), chs_zero, ev_one, pw_zero, Px.one_mul, Px.one_mul, Nat.sub_zero]
    have e1 : sx (n + 1) (fun i => ev p [chs (n + 1) (i + 1)] * (pw a (i + 1) * pw b (n + 1 - (i + 1)))) = sx (n + 1) (fun i => a * (ev p [chs n i] * (pw a i * pw b (n - i)))) + sx n (fun i => b * (ev p [chs n (i + 1)] * (pw a (i + 1) * pw b (n - (i + 1))))) := by
      have e2 : sx n (fun i => b * (ev p [chs n (i + 1)] * (pw a (i + 1) * pw b (n - (i + 1))))) = sx (n + 1) (fun i => ev p [chs n (i + 1)] * (pw a (i + 1) * pw b (n - i))) := by
        rw [sx, chs_out n (n + 1) (by omega), ev_const_zero, Px.zero_mul, Px.add_zero]
        refine sx_congr fun i hi => ?_
        have e4 : pw b (n - i) = pw b (n - (i + 1)) * b := by rw [← pw_succ, show n - (i + 1) + 1 = n - i by omega]
        rw [e4]; ac_rfl
      rw [e2, ← sx_add]
      refine sx_congr fun i hi => ?_
      rw [chs, ← ev_const_add, Px.add_mul, Nat.add_sub_add_right, pw_succ]; ac_rfl
    rw [e1, sx_head n fun i => b * (ev p [chs n i] * (pw a i * pw b (n - i))), chs_zero, ev_one, pw_zero, Px.one_mul, Px.one_mul, Nat.sub_zero, pw_succ]
    ac_rfl

theorem ev_const_dvd {c : Nat} (h : p ∣ c) : ev p [c] = 0 := by
  rw [← ev_const_zero (p := p)]; exact ev_const_congr (by rw [Nat.mod_eq_zero_of_dvd h, Nat.zero_mod])

theorem frob_add (hP : M.Pr p) (a b : Px p) : pw (a + b) p = pw a p + pw b p := by
  obtain ⟨q, hq⟩ : ∃ q, p = q + 1 := ⟨p - 1, by have := hP.1; omega⟩
  have h1 := binomial a b p
  have e3 : ∀ F : Nat → Px p, sx (p + 1) F = F 0 + (sx q (fun i => F (i + 1)) + F p) := fun F => by
    rw [sx_head, show sx p (fun i => F (i + 1)) = sx (q + 1) (fun i => F (i + 1)) by rw [← hq], sx, ← hq]
  rw [h1, e3, sx_zero (n := q), chs_zero, chs_self, ev_one, Nat.sub_self, pw_zero, pw_zero, Px.mul_one, Px.one_mul, Px.one_mul, Px.one_mul, Px.zero_add, Nat.sub_zero, Px.add_comm]
  intro i hi
  rw [ev_const_dvd (chs_prime hP (by omega) (by omega)), Px.zero_mul]

theorem frob_const (hP : M.Pr p) (c : Nat) : pw (ev p [c]) p = ev p [c] := by
  rw [pw_const]
  refine ev_const_congr ?_
  obtain ⟨q, hq⟩ : ∃ q, p = q + 1 := ⟨p - 1, by have := hP.1; omega⟩
  by_cases hd : p ∣ c
  · rw [Nat.mod_eq_zero_of_dvd hd, Nat.mod_eq_zero_of_dvd (Nat.dvd_trans hd (by rw [hq, Nat.pow_succ]; exact Nat.dvd_mul_left ..))]
  · have h1 := M.fermat hP hd
    have h2 : c ^ p = c ^ (p - 1) * c := by rw [← Nat.pow_succ]; congr 1; omega
    rw [h2, Nat.mul_mod, h1, Nat.one_mul, Nat.mod_mod]

/-- The value of f at u (Horner's way). -/
def hor (u : Px p) : List Nat → Px p
  | [] => 0
  | c :: f => ev p [c] + u * hor u f

theorem hor_x : ∀ f : List Nat, hor (xX p) f = ev p f
  | [] => ev_nil.symm
  | c :: f => by rw [hor, hor_x f, ← ev_cons]

theorem frob_hor (hP : M.Pr p) (u : Px p) : ∀ f : List Nat, pw (hor u f) p = hor (pw u p) f
  | [] => by rw [hor, hor, pw_zero' (by have := hP.1; omega)]
  | c :: f => by rw [hor, hor, frob_add hP, frob_const hP, pw_mul, frob_hor hP u f]

theorem hor_const (a : Nat) : ∀ f : List Nat, hor (ev p [a]) f = ev p [valP p f a]
  | [] => by rw [hor]; exact ev_const_zero.symm
  | c :: f => by
    rw [hor, hor_const a f, ev_const_mul', ev_const_add, val_cons]
    exact ev_const_congr (by rw [Nat.mod_mod]; congr 1; rw [Nat.add_comm, Nat.mul_comm])

/-- The quotient by the root a (synthetic division). -/
def qS (p a : Nat) : List Nat → List Nat
  | [] => []
  | [_] => []
  | _ :: d :: f => valP p (d :: f) a :: qS p a (d :: f)

theorem qS_len (a : Nat) : ∀ f : List Nat, (qS p a f).length = f.length - 1
  | [] => rfl
  | [_] => rfl
  | _ :: d :: f => by rw [qS, List.length_cons, qS_len a (d :: f)]; simp

theorem qS_last (h2 : 2 ≤ p) (a : Nat) : ∀ f : List Nat, 2 ≤ f.length → f.getLast? = some 1 → (qS p a f).getLast? = some 1
  | [], h, _ => by simp at h
  | [_], h, _ => by simp at h
  | [c, d], _, h => by
    simp at h; subst h
    simp [qS, valP, Nat.mod_eq_of_lt (show 1 < p by omega)]
  | c :: d :: e :: f, _, h => by
    have h1 := qS_last h2 a (d :: e :: f) (by simp) (by simpa using h)
    have e1 : qS p a (c :: d :: e :: f) = valP p (d :: e :: f) a :: qS p a (d :: e :: f) := rfl
    rw [e1, List.getLast?_cons, h1]; rfl

theorem hor_qS (u : Px p) (a : Nat) : ∀ f : List Nat, hor u f = hor u (qS p a f) * (u - ev p [a]) + ev p [valP p f a]
  | [] => by rw [qS, hor, Px.zero_mul, Px.zero_add]; exact ev_const_zero.symm
  | [c] => by
    rw [qS, hor, hor, hor, Px.mul_zero, Px.add_zero, Px.zero_mul, Px.zero_add]
    exact ev_const_congr (by simp [valP])
  | c :: d :: f => by
    have ih := hor_qS u a (d :: f)
    obtain ⟨g, hg⟩ : ∃ g, g = d :: f := ⟨_, rfl⟩
    rw [← hg] at ih
    have e1 : qS p a (c :: d :: f) = valP p g a :: qS p a g := by rw [hg]; rfl
    have e2 : ev p [valP p (c :: g) a] = ev p [valP p g a] * ev p [a] + ev p [c] := by
      rw [val_cons, ev_const_mul', ev_const_add]; exact ev_const_congr (Nat.mod_mod _ _)
    rw [e1, ← hg, hor, ih, hor, e2]
    rw [Px.mul_sub, Px.mul_sub]
    have e3 : u * (hor u (qS p a g) * u - hor u (qS p a g) * ev p [a] + ev p [valP p g a]) = u * hor u (qS p a g) * u - u * hor u (qS p a g) * ev p [a] + u * ev p [valP p g a] := by
      rw [Px.mul_add, Px.mul_sub, ← Px.mul_assoc, ← Px.mul_assoc]
    rw [e3, Px.add_mul, Px.add_mul, Px.sub_def, Px.sub_def, Px.neg_add_rev]
    have e4 : -(ev p [valP p g a] * ev p [a]) + ev p [valP p g a] * ev p [a] = 0 := Px.neg_add _
    calc _ = ev p [c] + u * hor u (qS p a g) * u + -(u * hor u (qS p a g) * ev p [a]) + u * ev p [valP p g a] + 0 := by rw [Px.add_zero]; ac_rfl
      _ = _ := by rw [← e4]; ac_rfl

def prodS (p : Nat) (u : Px p) : List Nat → Px p
  | [] => 1
  | a :: xs => (u - ev p [a]) * prodS p u xs

theorem roots_split (hP : M.Pr p) : ∀ (xs : List Nat) (f : List Nat), xs.Nodup → (∀ x ∈ xs, x < p ∧ valP p f x = 0) → xs.length < f.length → f.getLast? = some 1 →
    ∃ q : List Nat, q.length = f.length - xs.length ∧ q.getLast? = some 1 ∧ ∀ u, hor u f = prodS p u xs * hor u q
  | [], f, _, _, _, hl => ⟨f, by simp, hl, fun u => by rw [prodS, Px.one_mul]⟩
  | a :: xs, f, hn, hx, hlt, hl => by
    have h2 := hP.1
    rw [List.nodup_cons] at hn
    rw [List.length_cons] at hlt
    have ha := hx a (by simp)
    obtain ⟨q, h3, h4, h5⟩ := roots_split hP xs (qS p a f) hn.2 (fun x hxm => by
      have h6 := hx x (by simp [hxm])
      refine ⟨h6.1, ?_⟩
      have h7 := hor_qS (ev p [x]) a f
      rw [hor_const, hor_const, h6.2, ha.2, ev_const_zero, Px.add_zero] at h7
      have hxa : x ≠ a := fun e => hn.1 (e ▸ hxm)
      have hv := val_lt (p := p) (by omega) (qS p a f) x
      refine Classical.byContradiction fun h0 => ?_
      have e8 : ev p [x] - ev p [a] = ev p [(x + p - a) % p] := by
        rw [Px.sub_eq_iff, ev_const_add]
        refine ev_const_congr ?_
        rw [Nat.add_mod, Nat.mod_mod, ← Nat.add_mod, show a + (x + p - a) = x + p by omega, Nat.add_mod_right]
      have h9 : (x + p - a) % p ≠ 0 := fun h0 => by
        rcases Nat.lt_or_ge x a with h1 | h1
        · rw [Nat.mod_eq_of_lt (by omega)] at h0; omega
        · rw [show x + p - a = (x - a) + p by omega, Nat.add_mod_right, Nat.mod_eq_of_lt (by omega)] at h0; omega
      have h10 := mul_ne hP hv (Nat.mod_lt (x + p - a) (by omega)) h0 h9
      rw [e8, ev_const_mul'] at h7
      have h11 := pol_const (p := p) (Nat.mod_lt _ (by omega)) h10
      have h12 : ev p [valP p (qS p a f) x * ((x + p - a) % p) % p] = 0 := by rw [ev_const_congr (Nat.mod_mod _ _), ← h7]
      exact absurd ((ev_zero_iff (by omega) h11).1 h12) (by simp)) (by rw [qS_len]; omega) (qS_last h2 a f (by omega) hl)
    refine ⟨q, by rw [h3, qS_len, List.length_cons]; omega, h4, fun u => ?_⟩
    rw [hor_qS u a f, ha.2, ev_const_zero, Px.add_zero, h5 u, prodS]; ac_rfl

theorem hor_zeros (u : Px p) (f : List Nat) : ∀ k, hor u (List.replicate k 0 ++ f) = pw u k * hor u f
  | 0 => by rw [List.replicate_zero, List.nil_append, pw_zero, Px.one_mul]
  | k + 1 => by rw [List.replicate_succ, List.cons_append, hor, hor_zeros u f k, ev_const_zero, Px.zero_add, pw_succ]; ac_rfl

/-- All elements of the field are the roots of u^p - u. -/
theorem prod_all (hP : M.Pr p) (u : Px p) : prodS p u (List.range p) = pw u p - u := by
  have h2 := hP.1
  obtain ⟨q, hq⟩ : ∃ q, p = q + 2 := ⟨p - 2, by omega⟩
  obtain ⟨F, hF⟩ : ∃ F : List Nat, F = 0 :: (p - 1) :: (List.replicate q 0 ++ [1]) := ⟨_, rfl⟩
  have hFl : F.length = p + 1 := by rw [hF]; simp; omega
  have hh : ∀ u : Px p, hor u F = pw u p - u := fun u => by
    rw [hF, hor, hor, hor_zeros, hor, hor, ev_const_zero, Px.zero_add, Px.mul_zero, Px.add_zero, ev_one, Px.mul_one, Px.mul_add]
    have e1 : u * ev p [p - 1] + u = 0 := by
      have : u * ev p [p - 1] + u * ev p [1] = 0 := by
        rw [← Px.mul_add, ev_const_add, show p - 1 + 1 = p by omega, ev_const_dvd (Nat.dvd_refl p), Px.mul_zero]
      rwa [ev_one, Px.mul_one] at this
    have e2 : pw u p = u * (u * pw u q) := by
      have : pw u p = pw u (q + 2) := by rw [← hq]
      rw [this, pw_succ, pw_succ]; ac_rfl
    rw [← e2]
    symm
    rw [Px.sub_eq_iff]
    calc pw u p = pw u p + 0 := by rw [Px.add_zero]
      _ = _ := by rw [← e1]; ac_rfl
  have hv : ∀ x, x < p → valP p F x = 0 := fun x hx => by
    have h3 := hor_const (p := p) x F
    rw [hh, frob_const hP, Px.sub_self] at h3
    refine Classical.byContradiction fun h0 => ?_
    have := (ev_zero_iff (by omega) (pol_const (val_lt (by omega) F x) h0)).1 h3.symm
    simp at this
  have hlast : F.getLast? = some 1 := by
    rw [hF, ← List.cons_append, ← List.cons_append, List.getLast?_append]; simp
  obtain ⟨Q, h4, h5, h6⟩ := roots_split hP (List.range p) F List.nodup_range (fun x hx => ⟨List.mem_range.1 hx, hv x (List.mem_range.1 hx)⟩) (by rw [hFl, List.length_range]; omega) hlast
  rw [hFl, List.length_range] at h4
  have h7 := h6 u
  match Q, h4, h5 with
  | [c], _, h5 =>
    simp at h5; subst h5
    rw [hh, hor, hor, Px.mul_zero, Px.add_zero, ev_one, Px.mul_one] at h7
    exact h7.symm
  | [], h4, _ => simp at h4
  | _ :: _ :: _, h4, _ => simp at h4

end Q
end Go.Proofs.YtgcjdojhfimceaaGreat

namespace Go.Proofs.YtgcjdojhfimceaaGreat
namespace Q
variable {p : Nat}

theorem sm_delta {n c : Nat} (hc : c < n) (x : Int) : sm n (fun j => if j = c then x else 0) = x := by
  induction n with
  | zero => omega
  | succ n ih =>
    rw [sm]
    by_cases h : c = n
    · subst h
      rw [sm_zero (fun i hi => by rw [if_neg (by omega)]), if_pos rfl]; omega
    · rw [ih (by omega), if_neg (by omega)]; omega

theorem sm_dvd {n : Nat} {F : Nat → Int} {d : Int} (h : ∀ i, i < n → d ∣ F i) : d ∣ sm n F := by
  induction n with
  | zero => exact ⟨0, by simp [sm]⟩
  | succ n ih => rw [sm]; exact Int.dvd_add (ih fun i hi => h i (by omega)) (h n (by omega))

theorem sm_dvd_sub {n : Nat} {F G : Nat → Int} {d : Int} (h : ∀ i, i < n → d ∣ F i - G i) : d ∣ sm n F - sm n G := by
  induction n with
  | zero => exact ⟨0, by simp [sm]⟩
  | succ n ih =>
    rw [sm, sm]
    have h1 := ih fun i hi => h i (by omega)
    have h2 := Int.dvd_add h1 (h n (by omega))
    rw [show sm n F + F n - (sm n G + G n) = sm n F - sm n G + (F n - G n) by omega]; exact h2

def rowAt (rows : List (List Nat)) (i : Nat) : List Nat := rows.getD i []
def dot (n : Nat) (r : List Nat) (h : Nat → Int) : Int := sm n fun j => cf r j * h j

theorem dvd_mod (a : Nat) : (p : Int) ∣ ((a % p : Nat) : Int) - (a : Int) := by
  obtain ⟨k, hk⟩ := natmod_eqv p a
  exact ⟨k, by omega⟩

theorem scale_getD (r : List Nat) (c i : Nat) : (((prodP' p r [c]).getD i 0 : Nat) : Int) = (cf r i * c) % p := by
  rw [prod_getD]
  congr 1
  have h := sm_more (n := i) (m := i + 1) (F := fun k => cf r k * cf [c] (i - k)) 
  unfold cau
  rw [sm, sm_zero]
  · simp [cf]
  · intro k hk
    rw [cf_out (f := [c]) (by simp; omega), Int.mul_zero]

theorem dmr {d x : Int} (c : Int) (h : d ∣ x) : d ∣ c * x := by obtain ⟨k, rfl⟩ := h; exact ⟨c * k, by ac_rfl⟩

theorem dvd_cf_mul {a b c : Int} (h : (p : Int) ∣ a - b) : (p : Int) ∣ a * c - b * c := by
  rw [← Int.sub_mul]; exact Int.dvd_mul_of_dvd_left h

theorem dot_scale (n : Nat) (r : List Nat) (c : Nat) (h : Nat → Int) : (p : Int) ∣ dot n (prodP' p r [c]) h - c * dot n r h := by
  unfold dot
  rw [← sm_mul]
  refine sm_dvd_sub fun i _ => ?_
  have h1 : (p : Int) ∣ cf (prodP' p r [c]) i - cf r i * c := by
    unfold cf
    rw [scale_getD]
    unfold cf
    exact ⟨-(((r.getD i 0 : Nat) : Int) * c / p), by have := Int.mul_ediv_add_emod (((r.getD i 0 : Nat) : Int) * c) p; rw [Int.mul_neg]; omega⟩
  have h2 := dvd_cf_mul (c := h i) h1
  rw [show (c : Int) * (cf r i * h i) = cf r i * c * h i by ac_rfl]
  exact h2

theorem dot_comb (n : Nat) (x r : List Nat) (t : Nat) (h : Nat → Int) : (p : Int) ∣ dot n (comb (fun a b => (a + t * b) % p) x r) h - (dot n x h + t * dot n r h) := by
  unfold dot
  rw [← sm_mul, ← sm_add]
  refine sm_dvd_sub fun i _ => ?_
  have h1 : (p : Int) ∣ cf (comb (fun a b => (a + t * b) % p) x r) i - (cf x i + t * cf r i) := by
    unfold cf
    rw [comb_getD _ (by simp)]
    have := dvd_mod (p := p) (x.getD i 0 + t * r.getD i 0)
    rw [Int.natCast_add, Int.natCast_mul] at this
    exact this
  have h2 := dvd_cf_mul (c := h i) h1
  rw [show cf x i * h i + (t : Int) * (cf r i * h i) = (cf x i + t * cf r i) * h i by rw [Int.add_mul]; ac_rfl]
  exact h2

theorem set_rowAt (rows : List (List Nat)) (d : Nat) (x : List Nat) (i : Nat) (hd : d < rows.length) : rowAt (rows.set d x) i = if i = d then x else rowAt rows i := by
  unfold rowAt
  rw [List.getD_eq_getElem?_getD, List.getElem?_set]
  by_cases h : i = d
  · subst h; simp [hd]
  · rw [if_neg (fun e => h e.symm), if_neg h, List.getD_eq_getElem?_getD]

theorem swap_rowAt (rows : List (List Nat)) (a d i : Nat) (ha : a < rows.length) (hd : d < rows.length) : rowAt (swapRows rows a d) i = if i = d then rowAt rows a else if i = a then rowAt rows d else rowAt rows i := by
  unfold swapRows
  rw [set_rowAt _ _ _ _ (by simpa using hd), set_rowAt _ _ _ _ ha]
  rfl

theorem swap_length (rows : List (List Nat)) (a d : Nat) : (swapRows rows a d).length = rows.length := by simp [swapRows]
theorem clear_length (rows : List (List Nat)) (r j : Nat) : (clearCol p rows r j).length = rows.length := by simp [clearCol]

theorem clear_rowAt (rows : List (List Nat)) (r j i : Nat) (hr : r < rows.length) (hi : i < rows.length) :
    rowAt (clearCol p rows r j) i = if i = r then prodP' p (rowAt rows r) [invM p ((rowAt rows r).getD j 0)]
      else if p - (rowAt rows i).getD j 0 < p then comb (fun a b => (a + (p - (rowAt rows i).getD j 0) * b) % p) (rowAt rows i) (prodP' p (rowAt rows r) [invM p ((rowAt rows r).getD j 0)]) else rowAt rows i := by
  have e : ∀ k, k < rows.length → ∀ X : List (List Nat), X.length = rows.length → rowAt (X.mapIdx fun i x => if i ≠ r ∧ p - x.getD j 0 < p then comb (fun a b => (a + (p - x.getD j 0) * b) % p) x (prodP' p (rowAt rows r) [invM p ((rowAt rows r).getD j 0)]) else x) k = (if k ≠ r ∧ p - (rowAt X k).getD j 0 < p then comb (fun a b => (a + (p - (rowAt X k).getD j 0) * b) % p) (rowAt X k) (prodP' p (rowAt rows r) [invM p ((rowAt rows r).getD j 0)]) else rowAt X k) := by
    intro k hk X hX
    have hk2 : k < X.length := by omega
    have e1 : rowAt X k = X[k] := by unfold rowAt; simp [List.getD, hk2]
    rw [e1]
    unfold rowAt
    rw [List.getD_eq_getElem?_getD, List.getElem?_mapIdx, List.getElem?_eq_getElem hk2]
    rfl
  have h := e i hi (rows.set r (prodP' p (rowAt rows r) [invM p ((rowAt rows r).getD j 0)])) (by simp)
  rw [set_rowAt _ _ _ _ hr] at h
  unfold clearCol
  refine h.trans ?_
  by_cases h1 : i = r
  · subst h1; simp
  · simp only [h1, if_false, ne_eq, not_false_eq_true, true_and]

/-- What the rounds of the elimination keep: j columns are done, with d pivots. -/
structure RedInv (p n : Nat) (m : List (List Nat)) (j d : Nat) (rows : List (List Nat)) (piv : List Int) : Prop where
  len : rows.length = n
  red : ∀ i, i < n → Red p (rowAt rows i)
  plen : piv.length = n
  ker : ∀ h : Nat → Int, (∀ i, i < n → (p : Int) ∣ dot n (rowAt rows i) h) ↔ (∀ i, i < n → (p : Int) ∣ dot n (rowAt m i) h)
  dle : d ≤ j
  pv : ∀ c, c < n → piv.getD c (-1) = -1 ∨ ∃ r, r < d ∧ c < j ∧ piv.getD c (-1) = (r : Int) ∧ (rowAt rows r).getD c 0 = 1 ∧ ∀ i, i < n → i ≠ r → (rowAt rows i).getD c 0 = 0
  own : ∀ r, r < d → ∃ c, c < j ∧ piv.getD c (-1) = (r : Int)
  low : ∀ i, d ≤ i → i < n → ∀ c, c < j → (rowAt rows i).getD c 0 = 0
  inj : ∀ c c', c < n → c' < n → 0 ≤ piv.getD c (-1) → piv.getD c (-1) = piv.getD c' (-1) → c = c'

theorem firstRow_is (rows : List (List Nat)) (j : Nat) : ∀ (m i : Nat), i ≤ firstRow rows j i m ∧ firstRow rows j i m ≤ i + m ∧ (∀ k, i ≤ k → k < firstRow rows j i m → (rowAt rows k).getD j 0 = 0) ∧ (firstRow rows j i m < i + m → (rowAt rows (firstRow rows j i m)).getD j 0 ≠ 0)
  | 0, i => by simp only [firstRow]; exact ⟨by omega, by omega, fun k _ _ => by omega, fun _ => by omega⟩
  | m + 1, i => by
    rw [firstRow]
    by_cases h : (rows.getD i []).getD j 0 = 0
    · rw [if_pos h]
      obtain ⟨h1, h2, h3, h4⟩ := firstRow_is rows j m (i + 1)
      refine ⟨by omega, by omega, fun k hk hk2 => ?_, fun h5 => h4 (by omega)⟩
      by_cases e : k = i
      · subst e; exact h
      · exact h3 k (by omega) hk2
    · rw [if_neg h]
      exact ⟨by omega, by omega, fun k _ _ => by omega, fun _ => h⟩

theorem ker_of {n : Nat} {A B : List (List Nat)} {h : Nat → Int} (hAB : ∀ i, i < n → ∃ k, k < n ∧ ∃ c t : Int, ∃ l, l < n ∧ (p : Int) ∣ dot n (rowAt A i) h - (c * dot n (rowAt B k) h + t * dot n (rowAt B l) h)) (hB : ∀ i, i < n → (p : Int) ∣ dot n (rowAt B i) h) : ∀ i, i < n → (p : Int) ∣ dot n (rowAt A i) h := by
  intro i hi
  obtain ⟨k, hk, c, t, l, hl, hd⟩ := hAB i hi
  have h1 := Int.dvd_add hd (Int.dvd_add (dmr c (hB k hk)) (dmr t (hB l hl)))
  rwa [Int.sub_add_cancel] at h1

theorem swap_ker {n : Nat} {rows : List (List Nat)} {a d : Nat} (hl : rows.length = n) (ha : a < n) (hd : d < n) (h : Nat → Int) : (∀ i, i < n → (p : Int) ∣ dot n (rowAt (swapRows rows a d) i) h) ↔ (∀ i, i < n → (p : Int) ∣ dot n (rowAt rows i) h) := by
  constructor
  · intro H i hi
    by_cases h1 : i = d
    · subst h1
      have := H a ha
      rw [swap_rowAt _ _ _ _ (by omega) (by omega)] at this
      by_cases h2 : a = i
      · subst h2; simpa using this
      · rwa [if_neg h2, if_pos rfl] at this
    · by_cases h2 : i = a
      · subst h2
        have := H d hd
        rwa [swap_rowAt _ _ _ _ (by omega) (by omega), if_pos rfl] at this
      · have := H i hi
        rwa [swap_rowAt _ _ _ _ (by omega) (by omega), if_neg h1, if_neg h2] at this
  · intro H i hi
    rw [swap_rowAt _ _ _ _ (by omega) (by omega)]
    split
    · exact H a ha
    · split
      · exact H d hd
      · exact H i hi

theorem clear_ker (hP : M.Pr p) {n : Nat} {rows : List (List Nat)} {r j : Nat} (hl : rows.length = n) (hr : r < n) (hred : Red p (rowAt rows r)) (hpv : (rowAt rows r).getD j 0 ≠ 0) (h : Nat → Int) :
    (∀ i, i < n → (p : Int) ∣ dot n (rowAt (clearCol p rows r j) i) h) ↔ (∀ i, i < n → (p : Int) ∣ dot n (rowAt rows i) h) := by
  have hp2 := hP.1
  obtain ⟨a, hae⟩ : ∃ a, a = (rowAt rows r).getD j 0 := ⟨_, rfl⟩
  have ha : a < p := hae ▸ hred.getD (by omega) j
  obtain ⟨hi1, hi2, hi3⟩ := inv_spec hP ha (by omega)
  have hrow : ∀ i, i < n → i ≠ r → ∃ t : Nat, ∀ h : Nat → Int, (p : Int) ∣ dot n (rowAt (clearCol p rows r j) i) h - (dot n (rowAt rows i) h + t * dot n (rowAt (clearCol p rows r j) r) h) := by
    intro i hi hir
    have e1 := clear_rowAt (p := p) rows r j i (by omega) (by omega)
    have e2 := clear_rowAt (p := p) rows r j r (by omega) (by omega)
    rw [if_pos rfl] at e2
    rw [if_neg hir, ← e2] at e1
    by_cases ht : p - (rowAt rows i).getD j 0 < p
    · rw [if_pos ht] at e1
      exact ⟨p - (rowAt rows i).getD j 0, fun h => by rw [e1]; exact dot_comb n _ _ _ h⟩
    · rw [if_neg ht] at e1
      exact ⟨0, fun h => by rw [e1]; simp⟩
  have e2 : ∀ h : Nat → Int, (p : Int) ∣ dot n (rowAt (clearCol p rows r j) r) h - invM p a * dot n (rowAt rows r) h := fun h => by
    have e2 := clear_rowAt (p := p) rows r j r (by omega) (by omega)
    rw [if_pos rfl] at e2
    rw [e2, ← hae]; exact dot_scale n _ _ h
  constructor
  · intro H
    have hr1 : (p : Int) ∣ dot n (rowAt rows r) h := by
      have h1 := H r hr
      have h2 := Int.dvd_sub h1 (e2 h)
      rw [Int.sub_sub_self] at h2
      have h3 := dmr (a : Int) h2
      have h4 : (p : Int) ∣ (((a * invM p a : Nat) : Int) - 1) * dot n (rowAt rows r) h := by
        refine Int.dvd_mul_of_dvd_left ?_
        have := dvd_mod (p := p) (a * invM p a)
        rw [hi2] at this
        have := Int.dvd_neg.2 this
        rwa [Int.neg_sub] at this
      have h5 := Int.dvd_sub h3 h4
      rw [Int.natCast_mul, Int.sub_mul, Int.one_mul, Int.mul_assoc, Int.sub_sub_self] at h5
      exact h5
    intro i hi
    by_cases hir : i = r
    · rw [hir]; exact hr1
    · obtain ⟨t, ht⟩ := hrow i hi hir
      have h1 := Int.dvd_sub (Int.dvd_sub (H i hi) (ht h)) (dmr (t : Int) (H r hr))
      rw [Int.sub_sub_self, Int.add_sub_cancel] at h1
      exact h1
  · intro H
    have hr1 : (p : Int) ∣ dot n (rowAt (clearCol p rows r j) r) h := by
      have := Int.dvd_add (e2 h) (dmr (invM p a : Int) (H r hr))
      rwa [Int.sub_add_cancel] at this
    intro i hi
    by_cases hir : i = r
    · rw [hir]; exact hr1
    · obtain ⟨t, ht⟩ := hrow i hi hir
      have h1 := Int.dvd_add (ht h) (Int.dvd_add (H i hi) (dmr (t : Int) hr1))
      rwa [Int.sub_add_cancel] at h1

theorem scale_getD' (r : List Nat) (c i : Nat) : (prodP' p r [c]).getD i 0 = r.getD i 0 * c % p := by
  have h := scale_getD (p := p) r c i
  unfold cf at h
  exact_mod_cast h

theorem clear_red (hp : 0 < p) {rows : List (List Nat)} {r j : Nat} (hr : r < rows.length) (hred : ∀ i, i < rows.length → Red p (rowAt rows i)) (i : Nat) (hi : i < rows.length) : Red p (rowAt (clearCol p rows r j) i) := by
  rw [clear_rowAt _ _ _ _ hr hi]
  split
  · exact red_prod hp _ _
  · split
    · exact comb_red (fun _ _ => Nat.mod_lt _ hp) _ _
    · exact hred i hi

/-- Where a column has zeros only in the row r of the pivot, it stays as it is. -/
theorem clear_zero (hp : 0 < p) {rows : List (List Nat)} {r j c : Nat} (hr : r < rows.length) (hred : ∀ i, i < rows.length → Red p (rowAt rows i)) (hc : (rowAt rows r).getD c 0 = 0) (i : Nat) (hi : i < rows.length) : (rowAt (clearCol p rows r j) i).getD c 0 = (rowAt rows i).getD c 0 := by
  rw [clear_rowAt _ _ _ _ hr hi]
  split
  · next h => subst h; rw [scale_getD', hc]; simp
  · split
    · rw [comb_getD _ (by simp), scale_getD', hc]
      simp only [Nat.zero_mul, Nat.zero_mod, Nat.mul_zero, Nat.add_zero]
      exact Nat.mod_eq_of_lt ((hred i hi).getD hp c)
    · rfl

theorem clear_col (hP : M.Pr p) {rows : List (List Nat)} {r j : Nat} (hr : r < rows.length) (hred : ∀ i, i < rows.length → Red p (rowAt rows i)) (hpv : (rowAt rows r).getD j 0 ≠ 0) (i : Nat) (hi : i < rows.length) : (rowAt (clearCol p rows r j) i).getD j 0 = if i = r then 1 else 0 := by
  have hp2 := hP.1
  have ha := (hred r hr).getD (by omega) j
  obtain ⟨h1, h2, h3⟩ := inv_spec hP ha hpv
  rw [clear_rowAt _ _ _ _ hr hi]
  by_cases hir : i = r
  · rw [if_pos hir, if_pos hir, scale_getD', h2]
  · rw [if_neg hir, if_neg hir]
    have hb := (hred i hi).getD (by omega) j
    by_cases ht : p - (rowAt rows i).getD j 0 < p
    · rw [if_pos ht, comb_getD _ (by simp), scale_getD', h2, Nat.mul_one, show (rowAt rows i).getD j 0 + (p - (rowAt rows i).getD j 0) = p by omega, Nat.mod_self]
    · rw [if_neg ht]; omega

theorem set_getD (l : List Int) (j : Nat) (x : Int) (c : Nat) (hj : j < l.length) : (l.set j x).getD c (-1) = if c = j then x else l.getD c (-1) := by
  rw [List.getD_eq_getElem?_getD, List.getElem?_set]
  by_cases h : c = j
  · subst h; simp [hj]
  · rw [if_neg (fun e => h e.symm), if_neg h, List.getD_eq_getElem?_getD]

theorem redLoop_inv (hP : M.Pr p) {n : Nat} {m : List (List Nat)} : ∀ (k : Nat) {d : Nat} {rows : List (List Nat)} {piv : List Int}, k ≤ n → RedInv p n m (n - k) d rows piv → ∃ d', RedInv p n m n d' (redLoop p n k d rows piv).1 (redLoop p n k d rows piv).2
  | 0, d, rows, piv, _, I => ⟨d, by rw [redLoop]; exact I⟩
  | k + 1, d, rows, piv, hk, I => by
    have hp2 := hP.1
    obtain ⟨j, hj⟩ : ∃ j, j = n - (k + 1) := ⟨_, rfl⟩
    have hjn : j < n := by omega
    have hj1 : n - k = j + 1 := by omega
    rw [← hj] at I
    have hd := I.dle
    obtain ⟨f1, f2, f3, f4⟩ := firstRow_is rows j (n - d) d
    rw [redLoop]
    simp only [← hj]
    obtain ⟨i, hi⟩ : ∃ i, i = firstRow rows j d (n - d) := ⟨_, rfl⟩
    rw [← hi] at f1 f2 f3 f4 ⊢
    by_cases hin : i = n
    · rw [if_pos hin]
      refine redLoop_inv hP k (by omega) ?_
      rw [hj1]
      refine ⟨I.len, I.red, I.plen, I.ker, by omega, fun c hc => ?_, fun r hr => ?_, fun a ha han c hc => ?_, I.inj⟩
      · rcases I.pv c hc with h | ⟨r, h1, h2, h3⟩
        · exact .inl h
        · exact .inr ⟨r, h1, by omega, h3⟩
      · obtain ⟨c, h1, h2⟩ := I.own r hr; exact ⟨c, by omega, h2⟩
      · by_cases e : c = j
        · subst e; exact f3 a ha (by omega)
        · exact I.low a ha han c (by omega)
    · rw [if_neg hin]
      have hln := I.len
      have hpv := f4 (by omega)
      obtain ⟨S, hS⟩ : ∃ S, S = swapRows rows i d := ⟨_, rfl⟩
      have hSl : S.length = n := by rw [hS, swap_length]; exact hln
      have hSr : ∀ a, rowAt S a = if a = d then rowAt rows i else if a = i then rowAt rows d else rowAt rows a := fun a => by rw [hS]; exact swap_rowAt _ _ _ _ (by omega) (by omega)
      have hSred : ∀ a, a < S.length → Red p (rowAt S a) := fun a ha => by
        rw [hSr]; split
        · exact I.red _ (by omega)
        · split
          · exact I.red _ (by omega)
          · exact I.red _ (by omega)
      have hSd : rowAt S d = rowAt rows i := by rw [hSr, if_pos rfl]
      have hSlow : ∀ a, d ≤ a → a < n → ∀ c, c < j → (rowAt S a).getD c 0 = 0 := fun a ha han c hc => by
        rw [hSr]; split
        · exact I.low i (by omega) (by omega) c hc
        · split
          · exact I.low d (by omega) (by omega) c hc
          · exact I.low a ha han c hc
      have hSpv : (rowAt S d).getD j 0 ≠ 0 := by rw [hSd]; exact hpv
      rw [← hS]
      have hz : ∀ c, c < j → (rowAt S d).getD c 0 = 0 := fun c hc => hSlow d (by omega) (by omega) c hc
      have hkeep : ∀ c, c < j → ∀ a, a < n → (rowAt (clearCol p S d j) a).getD c 0 = (rowAt S a).getD c 0 := fun c hc a ha => clear_zero (by omega) (by omega) hSred (hz c hc) a (by omega)
      refine redLoop_inv hP k (by omega) ?_
      rw [hj1]
      refine ⟨by rw [clear_length]; exact hSl, fun a ha => clear_red (by omega) (by omega) hSred a (by omega), by simp [I.plen], fun h => ?_, by omega, fun c hc => ?_, fun r hr => ?_, fun a ha han c hc => ?_, fun c c' hc hc' h0 he => ?_⟩
      · rw [clear_ker hP hSl (by omega) (hSred d (by omega)) hSpv h, hS, swap_ker hln (by omega) (by omega) h]
        exact I.ker h
      · rw [set_getD _ _ _ _ (by rw [I.plen]; omega)]
        by_cases e : c = j
        · subst e
          rw [if_pos rfl]
          refine .inr ⟨d, by omega, by omega, rfl, ?_, fun a ha had => ?_⟩
          · rw [clear_col hP (by omega) hSred hSpv _ (by omega), if_pos rfl]
          · rw [clear_col hP (by omega) hSred hSpv _ (by omega), if_neg had]
        · rw [if_neg e]
          rcases I.pv c hc with h | ⟨r, h1, h2, h3, h4, h5⟩
          · exact .inl h
          · refine .inr ⟨r, by omega, by omega, h3, ?_, fun a ha har => ?_⟩
            · rw [hkeep c h2 r (by omega), hSr, if_neg (by omega), if_neg (by omega)]; exact h4
            · rw [hkeep c h2 a ha, hSr]
              split
              · exact h5 i (by omega) (by omega)
              · split
                · exact h5 d (by omega) (by omega)
                · exact h5 a ha har
      · by_cases e : r = d
        · subst e; exact ⟨j, by omega, by rw [set_getD _ _ _ _ (by rw [I.plen]; omega), if_pos rfl]⟩
        · obtain ⟨c, h1, h2⟩ := I.own r (by omega)
          exact ⟨c, by omega, by rw [set_getD _ _ _ _ (by rw [I.plen]; omega), if_neg (by omega)]; exact h2⟩
      · by_cases e : c = j
        · subst e; rw [clear_col hP (by omega) hSred hSpv _ (by omega), if_neg (by omega)]
        · rw [hkeep c (by omega) a han]; exact hSlow a (by omega) han c (by omega)
      · have hlt : ∀ c, c < n → piv.getD c (-1) < (d : Int) := fun c hc => by
          rcases I.pv c hc with h | ⟨r, h1, _, h3, _⟩ <;> omega
        have l1 := hlt c hc
        have l2 := hlt c' hc'
        rw [set_getD _ _ _ _ (by rw [I.plen]; omega)] at h0 he
        rw [set_getD _ _ _ _ (by rw [I.plen]; omega)] at he
        by_cases e1 : c = j
        · by_cases e2 : c' = j
          · omega
          · rw [if_pos e1, if_neg e2] at he; omega
        · by_cases e2 : c' = j
          · rw [if_neg e1, if_pos e2] at he; omega
          · rw [if_neg e1] at h0 he; rw [if_neg e2] at he
            exact I.inj c c' hc hc' h0 he

theorem reduced_inv (hP : M.Pr p) {n : Nat} {m : List (List Nat)} (hl : m.length = n) (hred : ∀ i, i < n → Red p (rowAt m i)) : ∃ d, RedInv p n m n d (reducedP p m).1 (reducedP p m).2 := by
  unfold reducedP
  rw [hl]
  refine redLoop_inv hP n (Nat.le_refl _) ⟨hl, hred, by simp, fun _ => Iff.rfl, by omega, fun c hc => .inl (by simp [List.getD, hc]), fun r hr => by omega, fun a _ _ c hc => by omega, fun c c' hc hc' h0 => by simp [List.getD, hc] at h0⟩

/-- The columns without a pivot, and the basis that they give. -/
def freeL (p : Nat) (m : List (List Nat)) : List Nat := (List.range m.length).filter fun j => decide ((reducedP p m).2.getD j (-1) < 0)
def colP (p : Nat) (m : List (List Nat)) (j : Nat) : List Nat := column p m.length j (reducedP p m).1 (reducedP p m).2
theorem kernelP_eq (m : List (List Nat)) : kernelP p m = (freeL p m).map fun j => trim (colP p m j) := rfl

theorem freeL_nodup (m : List (List Nat)) : (freeL p m).Nodup := List.Pairwise.filter _ List.nodup_range

structure KerIs (p n : Nat) (m : List (List Nat)) : Prop where
  /-- each column of the basis is in the kernel -/
  mem : ∀ j ∈ freeL p m, ∀ i, i < n → (p : Int) ∣ dot n (rowAt m i) (cf (colP p m j))
  /-- what is in the kernel is their sum, with its own numbers at the free columns -/
  span : ∀ h : Nat → Int, (∀ i, i < n → (p : Int) ∣ dot n (rowAt m i) h) → ∀ c, c < n → (p : Int) ∣ h c - sm n fun j => if j ∈ freeL p m then h j * cf (colP p m j) c else 0
  free : ∀ j ∈ freeL p m, j < n ∧ ∀ i ∈ freeL p m, (colP p m j).getD i 0 = if i = j then 1 else 0

theorem column_getD (n j i : Nat) (rows : List (List Nat)) (piv : List Int) (hi : i < n) : (column p n j rows piv).getD i 0 = if 0 ≤ piv.getD i (-1) then (p - (rowAt rows (piv.getD i (-1)).toNat).getD j 0) % p else if i = j then 1 else 0 := by
  unfold column
  simp [List.getD, hi, rowAt]; rfl

theorem kernel_is (hP : M.Pr p) {n : Nat} {m : List (List Nat)} (hl : m.length = n) (hred : ∀ i, i < n → Red p (rowAt m i)) : KerIs p n m := by
  have hp2 := hP.1
  obtain ⟨d, I⟩ := reduced_inv hP hl hred
  obtain ⟨R, hR⟩ : ∃ R, R = (reducedP p m).1 := ⟨_, rfl⟩
  obtain ⟨V, hV⟩ : ∃ V, V = (reducedP p m).2 := ⟨_, rfl⟩
  rw [← hR, ← hV] at I
  have hfree : ∀ j, j ∈ freeL p m ↔ j < n ∧ V.getD j (-1) = -1 := fun j => by
    unfold freeL
    rw [List.mem_filter, List.mem_range, hl, ← hV, decide_eq_true_eq]
    constructor
    · rintro ⟨h1, h2⟩
      rcases I.pv j h1 with h | ⟨r, _, _, h, _⟩
      · exact ⟨h1, h⟩
      · omega
    · rintro ⟨h1, h2⟩; exact ⟨h1, by omega⟩
  have hcol : ∀ j i, i < n → (colP p m j).getD i 0 = if 0 ≤ V.getD i (-1) then (p - (rowAt R (V.getD i (-1)).toNat).getD j 0) % p else if i = j then 1 else 0 := fun j i hi => by
    unfold colP
    rw [hl, ← hR, ← hV]
    exact column_getD n j i R V hi
  -- an entry of a pivot's column
  have hpiv : ∀ c, c < n → ¬ c ∈ freeL p m → ∃ r, r < n ∧ r < d ∧ V.getD c (-1) = (r : Int) ∧ ∀ i, i < n → (rowAt R i).getD c 0 = if i = r then 1 else 0 := fun c hc hn => by
    rcases I.pv c hc with h | ⟨r, h1, h2, h3, h4, h5⟩
    · exact absurd ((hfree c).2 ⟨hc, h⟩) hn
    · have hdn := I.dle
      refine ⟨r, by omega, h1, h3, fun i hi => ?_⟩
      by_cases e : i = r
      · subst e; rw [if_pos rfl]; exact h4
      · rw [if_neg e]; exact h5 i hi e
  have hdn := I.dle
  have hone : ∀ (r c : Nat), c < n → V.getD c (-1) = (r : Int) → r < d → ∀ c', c' < n → c' ∉ freeL p m → (rowAt R r).getD c' 0 = if c' = c then 1 else 0 := fun r c hc hcr hrd c' hc' hcf' => by
    obtain ⟨r', h1, h2, h3, h4⟩ := hpiv c' hc' hcf'
    rw [h4 r (by omega)]
    by_cases e : r = r'
    · subst e
      rw [if_pos rfl, if_pos (I.inj c' c hc' hc (by omega) (by omega))]
    · rw [if_neg e, if_neg]
      intro e2; subst e2; omega
  have hcolP : ∀ j c r, c < n → V.getD c (-1) = ((r : Nat) : Int) → r < n → (p : Int) ∣ cf (colP p m j) c + cf (rowAt R r) j := fun j c r hc hcr hrn => by
    unfold cf
    rw [hcol j c hc, if_pos (by omega), hcr, Int.toNat_natCast]
    have hb := (I.red r hrn).getD (by omega) j
    have h1 := dvd_mod (p := p) (p - (rowAt R r).getD j 0)
    have h2 : (p : Int) ∣ p := ⟨1, by omega⟩
    have h3 := Int.dvd_add h1 h2
    rwa [show (((p - (rowAt R r).getD j 0) % p : Nat) : Int) - ((p - (rowAt R r).getD j 0 : Nat) : Int) + p = (((p - (rowAt R r).getD j 0) % p : Nat) : Int) + ((rowAt R r).getD j 0 : Nat) by omega] at h3
  have hfreeC : ∀ j i, i ∈ freeL p m → (colP p m j).getD i 0 = if i = j then 1 else 0 := fun j i hi => by
    obtain ⟨h1, h2⟩ := (hfree i).1 hi
    rw [hcol j i h1, if_neg (by omega)]
  refine ⟨fun j hj => ?_, fun h hh c hc => ?_, fun j hj => ⟨((hfree j).1 hj).1, fun i hi => hfreeC j i hi⟩⟩
  · rw [← I.ker]
    intro i hi
    by_cases hid : i < d
    · obtain ⟨c, hc, hci⟩ := I.own i hid
      have hcn : c ∉ freeL p m := fun h => by have := ((hfree c).1 h).2; omega
      have hjc : j ≠ c := fun e => hcn (e ▸ hj)
      have e : dot n (rowAt R i) (cf (colP p m j)) = sm n fun k => (if k = j then cf (rowAt R i) j else 0) + (if k = c then cf (colP p m j) c else 0) := by
        unfold dot
        refine sm_congr fun k hk => ?_
        by_cases hkf : k ∈ freeL p m
        · have h1 := hfreeC j k hkf
          have hkc : k ≠ c := fun e => hcn (e ▸ hkf)
          rw [if_neg hkc, show cf (colP p m j) k = (((if k = j then 1 else 0 : Nat)) : Int) by unfold cf; rw [h1]]
          by_cases hkj : k = j
          · subst hkj; simp
          · simp [hkj]
        · have h1 := hone i c hc hci hid k hk hkf
          have hkj : k ≠ j := fun e => hkf (e ▸ hj)
          rw [if_neg hkj, show cf (rowAt R i) k = (((if k = c then 1 else 0 : Nat)) : Int) by unfold cf; rw [h1]]
          by_cases hkc : k = c
          · subst hkc; simp
          · simp [hkc]
      rw [e, sm_add, sm_delta ((hfree j).1 hj).1, sm_delta hc, Int.add_comm]
      exact hcolP j c i hc hci hi
    · refine sm_dvd fun k hk => ?_
      rw [show cf (rowAt R i) k = 0 by unfold cf; rw [I.low i (by omega) hi k hk]; rfl, Int.zero_mul]
      exact ⟨0, by simp⟩
  · have hR := (I.ker h).2 hh
    by_cases hcf : c ∈ freeL p m
    · have e : (sm n fun j => if j ∈ freeL p m then h j * cf (colP p m j) c else 0) = sm n fun j => if j = c then h c else 0 := by
        refine sm_congr fun k hk => ?_
        by_cases hkf : k ∈ freeL p m
        · rw [if_pos hkf]
          have h1 := hfreeC k c hcf
          unfold cf; rw [h1]
          by_cases hkc : k = c
          · subst hkc; simp
          · rw [if_neg hkc, if_neg (fun e => hkc e.symm)]; simp
        · rw [if_neg hkf, if_neg (fun e : k = c => hkf (by rw [e]; exact hcf))]
      rw [e, sm_delta hc, Int.sub_self]
      exact ⟨0, by simp⟩
    · obtain ⟨r, hr, hrd, hcr, _⟩ := hpiv c hc hcf
      have e : dot n (rowAt R r) h = (sm n fun j => if j ∈ freeL p m then cf (rowAt R r) j * h j else 0) + h c := by
        unfold dot
        rw [← sm_delta (n := n) hc (h c), ← sm_add]
        refine sm_congr fun k hk => ?_
        by_cases hkf : k ∈ freeL p m
        · have hkc : k ≠ c := fun e => hcf (e ▸ hkf)
          rw [if_pos hkf, if_neg hkc]; omega
        · have h1 := hone r c hc hcr hrd k hk hkf
          rw [if_neg hkf, show cf (rowAt R r) k = (((if k = c then 1 else 0 : Nat)) : Int) by unfold cf; rw [h1]]
          by_cases hkc : k = c
          · subst hkc; simp
          · simp [hkc]
      have h1 := hR r hr
      rw [e] at h1
      have h2 : (p : Int) ∣ (sm n fun j => if j ∈ freeL p m then cf (rowAt R r) j * h j else 0) + (sm n fun j => if j ∈ freeL p m then h j * cf (colP p m j) c else 0) := by
        rw [← sm_add]
        refine sm_dvd fun k hk => ?_
        by_cases hkf : k ∈ freeL p m
        · rw [if_pos hkf, if_pos hkf]
          have := dmr (h k) (hcolP k c r hc hcr hr)
          rwa [show h k * (cf (colP p m k) c + cf (rowAt R r) k) = cf (rowAt R r) k * h k + h k * cf (colP p m k) c by rw [Int.mul_add, Int.mul_comm (cf _ _)]; omega] at this
        · rw [if_neg hkf, if_neg hkf]; exact ⟨0, by simp⟩
      have h3 := Int.dvd_sub h1 h2
      rwa [show ∀ a b c : Int, a + b - (a + c) = b - c by omega] at h3

end Q
end Go.Proofs.YtgcjdojhfimceaaGreat

namespace Go.Proofs.YtgcjdojhfimceaaGreat
namespace Q
variable {p : Nat}

/-! ### Polynomials among the series -/
def IsP (p : Nat) (a : Px p) : Prop := ∃ q, Pol p q ∧ a = ev p q
theorem IsP.ev {q : List Nat} (h : Pol p q) : IsP p (ev p q) := ⟨q, h, rfl⟩
theorem IsP.add (hp : 0 < p) {a b : Px p} : IsP p a → IsP p b → IsP p (a + b) := by
  rintro ⟨q, _, rfl⟩ ⟨r, _, rfl⟩; exact ⟨sumP p q r, pol_sum hp _ _, (ev_sum _ _).symm⟩
theorem IsP.sub (hp : 0 < p) {a b : Px p} : IsP p a → IsP p b → IsP p (a - b) := by
  rintro ⟨q, _, rfl⟩ ⟨r, hr, rfl⟩; exact ⟨difP p q r, pol_dif hp _ _, (ev_dif hp _ hr.red).symm⟩
theorem IsP.mul (hP : M.Pr p) {a b : Px p} : IsP p a → IsP p b → IsP p (a * b) := by
  rintro ⟨q, hq, rfl⟩ ⟨r, hr, rfl⟩; exact ⟨prodP' p q r, pol_prod hP hq hr, (ev_prod _ _).symm⟩
theorem IsP.zero : IsP p 0 := ⟨[], Pol.nil p, ev_nil.symm⟩
theorem IsP.one (hP : M.Pr p) : IsP p 1 := ⟨[1], pol_one hP, ev_one.symm⟩
theorem IsP.pw (hP : M.Pr p) {a : Px p} (h : IsP p a) : ∀ n, IsP p (pw a n)
  | 0 => IsP.one hP
  | n + 1 => by rw [pw_succ]; exact (IsP.pw hP h n).mul hP h
theorem IsP.const (hp : 0 < p) (c : Nat) : IsP p (Q.ev p [c]) := by
  rw [ev_const_congr (c := c) (d := c % p) (by simp), ← ev_trim]
  exact ⟨_, pol_trim1 hp _ (Nat.mod_lt _ hp), rfl⟩
theorem IsP.neg (hp : 0 < p) {a : Px p} (h : IsP p a) : IsP p (-a) := by
  have := IsP.sub hp IsP.zero h
  rwa [Px.sub_def, Px.zero_add] at this

/-- f divides a. -/
def DX (p : Nat) (f : List Nat) (a : Px p) : Prop := ∃ b, IsP p b ∧ a = b * ev p f
theorem dx_iff {f g : List Nat} : DX p f (ev p g) ↔ Dv p f g := by
  constructor
  · rintro ⟨_, ⟨q, hq, rfl⟩, e⟩; exact ⟨q, hq, e⟩
  · rintro ⟨q, hq, e⟩; exact ⟨_, ⟨q, hq, rfl⟩, e⟩
theorem DX.zero {f : List Nat} : DX p f 0 := ⟨0, IsP.zero, by rw [Px.zero_mul]⟩
theorem DX.add (hp : 0 < p) {f : List Nat} {a b : Px p} : DX p f a → DX p f b → DX p f (a + b) := by
  rintro ⟨q, hq, rfl⟩ ⟨r, hr, rfl⟩; exact ⟨q + r, hq.add hp hr, by rw [Px.add_mul]⟩
theorem DX.neg (hp : 0 < p) {f : List Nat} {a : Px p} : DX p f a → DX p f (-a) := by
  rintro ⟨q, hq, rfl⟩; exact ⟨-q, hq.neg hp, by rw [Px.neg_mul]⟩
theorem DX.sub (hp : 0 < p) {f : List Nat} {a b : Px p} (h : DX p f a) (h' : DX p f b) : DX p f (a - b) := by rw [Px.sub_def]; exact h.add hp (h'.neg hp)
theorem DX.mul (hP : M.Pr p) {f : List Nat} {a b : Px p} (hb : IsP p b) : DX p f a → DX p f (b * a) := by
  rintro ⟨q, hq, rfl⟩; exact ⟨b * q, hb.mul hP hq, by rw [Px.mul_assoc]⟩
theorem DX.self (_hP : M.Pr p) {f : List Nat} {b : Px p} (hb : IsP p b) : DX p f (b * ev p f) := ⟨b, hb, rfl⟩
theorem DX.trans (hP : M.Pr p) {f g : List Nat} {a : Px p} (h : Dv p f g) : DX p g a → DX p f a := by
  rintro ⟨q, hq, rfl⟩; obtain ⟨r, hr, e⟩ := h; exact ⟨q * ev p r, hq.mul hP ⟨r, hr, rfl⟩, by rw [e, Px.mul_assoc]⟩

theorem neg_sub (a b : Px p) : -(a - b) = b - a := by rw [Px.sub_def, Px.sub_def, Px.neg_add_rev, Px.neg_neg, Px.add_comm]
theorem sub_add_sub (a b c : Px p) : (a - b) + (b - c) = a - c := by
  rw [Px.sub_def, Px.sub_def, Px.sub_def, show a + -b + (b + -c) = a + (-b + b) + -c by ac_rfl, Px.neg_add, Px.add_zero]
theorem add_sub_add (a b c d : Px p) : (a + b) - (c + d) = (a - c) + (b - d) := by
  rw [Px.sub_def, Px.sub_def, Px.sub_def, Px.neg_add_rev]; ac_rfl
theorem sub_add (a b : Px p) : a - b + b = a := by rw [Px.sub_def, Px.add_assoc, Px.neg_add, Px.add_zero]
theorem add_sub (a b : Px p) : a + b - b = a := by rw [Px.sub_def, Px.add_assoc, Px.add_neg, Px.add_zero]

/-- a and b are congruent modulo f. -/
def Cg (p : Nat) (f : List Nat) (a b : Px p) : Prop := DX p f (a - b)
theorem Cg.refl {f : List Nat} (a : Px p) : Cg p f a a := by unfold Cg; rw [Px.sub_self]; exact DX.zero
theorem Cg.of_eq {f : List Nat} {a b : Px p} (h : a = b) : Cg p f a b := h ▸ Cg.refl a
theorem Cg.symm (hp : 0 < p) {f : List Nat} {a b : Px p} (h : Cg p f a b) : Cg p f b a := by have := DX.neg hp h; rwa [neg_sub] at this
theorem Cg.trans (hp : 0 < p) {f : List Nat} {a b c : Px p} (h : Cg p f a b) (h' : Cg p f b c) : Cg p f a c := by have := DX.add hp h h'; rwa [sub_add_sub] at this
theorem Cg.add (hp : 0 < p) {f : List Nat} {a b c d : Px p} (h : Cg p f a b) (h' : Cg p f c d) : Cg p f (a + c) (b + d) := by
  unfold Cg; rw [add_sub_add]; exact DX.add hp h h'
theorem Cg.sub (hp : 0 < p) {f : List Nat} {a b c d : Px p} (h : Cg p f a b) (h' : Cg p f c d) : Cg p f (a - c) (b - d) := by
  unfold Cg
  have e : a - c - (b - d) = (a - b) - (c - d) := by
    simp only [Px.sub_def, Px.neg_add_rev, Px.neg_neg]; ac_rfl
  rw [e]; exact DX.sub hp h h'
theorem Cg.mul (hP : M.Pr p) {f : List Nat} {a b c d : Px p} (hc : IsP p c) (hb : IsP p b) (h : Cg p f a b) (h' : Cg p f c d) : Cg p f (a * c) (b * d) := by
  have hp : 0 < p := by have := hP.1; omega
  have h1 : DX p f (c * (a - b)) := DX.mul hP hc h
  have h2 : DX p f (b * (c - d)) := DX.mul hP hb h'
  have h3 := h1.add hp h2
  unfold Cg
  have e : c * (a - b) + b * (c - d) = a * c - b * d := by
    rw [Px.mul_sub, Px.mul_sub, Px.mul_comm c a, Px.mul_comm c b, sub_add_sub]
  rwa [e] at h3
theorem Cg.pw (hP : M.Pr p) {f : List Nat} {a b : Px p} (ha : IsP p a) (hb : IsP p b) (h : Cg p f a b) : ∀ n, Cg p f (pw a n) (pw b n)
  | 0 => Cg.refl _
  | n + 1 => by rw [pw_succ, pw_succ]; exact Cg.mul hP ha (hb.pw hP n) (Cg.pw hP ha hb h n) h
theorem Cg.zero {f : List Nat} {a : Px p} : Cg p f a 0 ↔ DX p f a := by unfold Cg; rw [Px.sub_zero]

theorem rem_cg (hP : M.Pr p) {g f : List Nat} (hg : Pol p g) (hf : Pol p f) (h0 : f.length ≠ 0) : Cg p f (ev p g) (ev p (remP p g f)) := by
  have D := div_is hP hg hf h0
  unfold Cg
  rw [D.val]
  unfold remP
  rw [add_sub]
  exact DX.self hP ⟨_, D.qpol, rfl⟩

theorem low_cg (hP : M.Pr p) {a b f : List Nat} (ha : Pol p a) (hb : Pol p b) (hf : Pol p f) (hla : a.length < f.length) (hlb : b.length < f.length) (h : Cg p f (ev p a) (ev p b)) : a = b := by
  have hp : 0 < p := by have := hP.1; omega
  unfold Cg at h
  rw [← ev_dif hp _ hb.red] at h
  have h1 := dx_iff.1 h
  have hl := dif_len (p := p) hp (f := a) (g := b)
  have h2 : (difP p a b).length = 0 := Classical.byContradiction fun h0 => by
    have := (h1.len hP hf (pol_dif hp _ _) h0).1; omega
  have h3 : ev p (difP p a b) = 0 := by rw [List.eq_nil_of_length_eq_zero h2, ev_nil]
  rw [ev_dif hp _ hb.red] at h3
  exact ev_inj hp ha hb (Px.sub_eq_zero.1 h3)

/-! ### Powers modulo f -/
theorem raise_cg (hP : M.Pr p) {g : List Nat} (hg : Pol p g) (h0 : g.length ≠ 0) : ∀ (n : Nat) (r s : List Nat) (e : Nat), e ≤ n → Pol p r → Pol p s → Pol p (raiseLoop p g n r s e) ∧ Cg p g (ev p (raiseLoop p g n r s e)) (ev p r * pw (ev p s) e)
  | 0, r, s, e, he, hr, hs => by
    obtain rfl : e = 0 := by omega
    exact ⟨hr, by rw [pw_zero, Px.mul_one]; exact Cg.refl _⟩
  | n + 1, r, s, e, he, hr, hs => by
    have hp : 0 < p := by have := hP.1; omega
    rw [raiseLoop]
    by_cases h : e = 0
    · rw [if_pos h, h]
      exact ⟨hr, by rw [pw_zero, Px.mul_one]; exact Cg.refl _⟩
    · rw [if_neg h]
      have hs2 := pol_prod hP hs hs
      have hrs := pol_prod hP hr hs
      have D2 := div_is hP hs2 hg h0
      have D1 := div_is hP hrs hg h0
      have c2 := rem_cg hP hs2 hg h0
      have c1 := rem_cg hP hrs hg h0
      rw [ev_prod] at c1 c2
      have e2 : pw (ev p s * ev p s) (e / 2) = pw (ev p s) (2 * (e / 2)) := by
        rw [← pw_pw, pw_mul, show (2 : Nat) = 1 + 1 from rfl, pw_add, pw_one, pw_mul]
      have key : ∀ r', Pol p r' → Cg p g (ev p r') (ev p r * pw (ev p s) (e % 2)) → Pol p (raiseLoop p g n r' (remP p (prodP' p s s) g) (e / 2)) ∧ Cg p g (ev p (raiseLoop p g n r' (remP p (prodP' p s s) g) (e / 2))) (ev p r * pw (ev p s) e) := fun r' hr' hc => by
        obtain ⟨i1, i2⟩ := raise_cg hP hg h0 n r' (remP p (prodP' p s s) g) (e / 2) (by omega) hr' D2.rpol
        refine ⟨i1, i2.trans hp ?_⟩
        have c3 := (c2.symm hp).pw hP (IsP.ev D2.rpol) ((IsP.ev hs).mul hP (IsP.ev hs)) (e / 2)
        rw [e2] at c3
        have c4 := Cg.mul hP ((IsP.ev D2.rpol).pw hP (e / 2)) ((IsP.ev hr).mul hP ((IsP.ev hs).pw hP (e % 2))) hc c3
        rw [Px.mul_assoc, ← pw_add, show e % 2 + 2 * (e / 2) = e by omega] at c4
        exact c4
      refine key _ ?_ ?_
      · split
        · exact D1.rpol
        · exact hr
      · split
        · next h1 => rw [h1, pw_one]; exact c1.symm hp
        · next h1 => rw [show e % 2 = 0 by omega, pw_zero, Px.mul_one]; exact Cg.refl _

theorem raise_len (hP : M.Pr p) {g : List Nat} (hg : Pol p g) (h0 : g.length ≠ 0) : ∀ (n : Nat) (r s : List Nat) (e : Nat), Pol p r → Pol p s → r.length < g.length → (raiseLoop p g n r s e).length < g.length
  | 0, r, s, e, hr, hs, hl => hl
  | n + 1, r, s, e, hr, hs, hl => by
    rw [raiseLoop]
    split
    · exact hl
    · have D1 := div_is hP (pol_prod hP hr hs) hg h0
      have D2 := div_is hP (pol_prod hP hs hs) hg h0
      refine raise_len hP hg h0 n _ _ _ ?_ D2.rpol ?_
      · split
        · exact D1.rpol
        · exact hr
      · split
        · exact D1.rlen
        · exact hl

theorem pol_xx (hP : M.Pr p) : Pol p [0, 1] := pol_of (by intro x hx; have := hP.1; simp at hx; omega) (by simp)
theorem ev_xx : ev p [0, 1] = xX p := by
  rw [ev_cons, ev_const_zero, ev_one, Px.zero_add, Px.mul_one]

/-- The step: x^p modulo f. -/
structure StepIs (p : Nat) (f s : List Nat) : Prop where
  pol : Pol p s
  len : s.length < f.length
  cg : Cg p f (ev p s) (pw (xX p) p)

theorem step_is (hP : M.Pr p) {f : List Nat} (hf : Pol p f) (h2 : 2 ≤ f.length) : StepIs p f (raiseP p [0, 1] p f) := by
  have h := raise_cg hP hf (by omega) p [1] [0, 1] p (Nat.le_refl _) (pol_one hP) (pol_xx hP)
  refine ⟨h.1, raise_len hP hf (by omega) p [1] [0, 1] p (pol_one hP) (pol_xx hP) (by simp; omega), ?_⟩
  have h1 := h.2
  rw [ev_one, Px.one_mul, ev_xx] at h1
  exact h1

theorem powSeq_is (hP : M.Pr p) {f s : List Nat} (hf : Pol p f) (h2 : 2 ≤ f.length) (S : StepIs p f s) : ∀ j, Pol p (powSeq p f s j) ∧ (powSeq p f s j).length < f.length ∧ Cg p f (ev p (powSeq p f s j)) (pw (pw (xX p) p) j)
  | 0 => ⟨pol_one hP, by show 1 < _; omega, by rw [pw_zero]; exact Cg.of_eq ev_one⟩
  | j + 1 => by
    have hp : 0 < p := by have := hP.1; omega
    obtain ⟨i1, i2, i3⟩ := powSeq_is hP hf h2 S j
    have D := div_is hP (pol_prod hP i1 S.pol) hf (by omega)
    refine ⟨D.rpol, D.rlen, ?_⟩
    have c := rem_cg hP (pol_prod hP i1 S.pol) hf (by omega)
    rw [ev_prod] at c
    rw [pw_succ]
    exact (c.symm hp).trans hp (Cg.mul hP (IsP.ev S.pol) (((ev_xx (p := p) ▸ IsP.ev (pol_xx hP)).pw hP p).pw hP j) i3 S.cg)

/-! ### The kernel of fixedMat -/
def fsum (p : Nat) (f s : List Nat) (n : Nat) (h : List Nat) : Px p := Px.of p fun i => sm n fun j => cf h j * cf (powSeq p f s j) i

theorem fsum_succ (f s : List Nat) (n : Nat) (h : List Nat) : fsum p f s (n + 1) h = fsum p f s n h + ev p [h.getD n 0] * ev p (powSeq p f s n) := by
  have e : ev p [h.getD n 0] * ev p (powSeq p f s n) = Px.of p fun i => cf h n * cf (powSeq p f s n) i := by
    unfold ev
    rw [Px.mul_of]
    congr 1; funext i
    have : cf [h.getD n 0] = fun k => if k = 0 then cf h n else 0 := by funext k; rcases k with _ | k <;> simp [cf]
    rw [this, cau_mono, if_pos (Nat.zero_le _), Nat.sub_zero]
  rw [e]
  unfold fsum
  rw [Px.add_of]
  rfl

/-- A polynomial at u, as a sum. -/
theorem hor_sx (u : Px p) : ∀ (h : List Nat) (n : Nat), h.length ≤ n → hor u h = sx n fun j => ev p [h.getD j 0] * pw u j
  | [], n, _ => by rw [hor, sx_zero]; intro i _; simp [ev_const_zero, Px.zero_mul]
  | c :: h, 0, hn => by simp at hn
  | c :: h, n + 1, hn => by
    rw [hor, sx_head, hor_sx u h n (by simp at hn; omega), ← sx_mul]
    congr 1
    · simp [pw_zero, Px.mul_one]
    · refine sx_congr fun j _ => ?_
      rw [List.getD_cons_succ, pw_succ]; ac_rfl

theorem fsum_cg (hP : M.Pr p) {f s : List Nat} (hf : Pol p f) (h2 : 2 ≤ f.length) (S : StepIs p f s) (h : List Nat) : ∀ n, Cg p f (fsum p f s n h) (sx n fun j => ev p [h.getD j 0] * pw (pw (xX p) p) j)
  | 0 => Cg.of_eq (by unfold fsum sx; exact Px.zero_of.symm)
  | n + 1 => by
    have hp : 0 < p := by have := hP.1; omega
    rw [fsum_succ, sx]
    have P := powSeq_is hP hf h2 S n
    exact (fsum_cg hP hf h2 S h n).add hp (Cg.mul hP (IsP.ev P.1) (IsP.const hp _) (Cg.refl _) P.2.2)

/-- h is its own p-th power modulo f. -/
def Fx (p : Nat) (f h : List Nat) : Prop := Cg p f (pw (ev p h) p) (ev p h)

theorem fsum_pw (hP : M.Pr p) {f s : List Nat} (hf : Pol p f) (h2 : 2 ≤ f.length) (S : StepIs p f s) {h : List Nat} {n : Nat} (hn : h.length ≤ n) : Cg p f (fsum p f s n h) (pw (ev p h) p) := by
  have h1 := fsum_cg hP hf h2 S h n
  rw [← hor_sx _ _ _ hn, ← frob_hor hP, hor_x] at h1
  exact h1

theorem fixedMat_row (f : List Nat) {i : Nat} (hi : i < f.length - 1) : rowAt (fixedMat p f) i = (List.range (f.length - 1)).map fun j => fixedCell p f (raiseP p [0, 1] p f) i j := by
  unfold rowAt fixedMat
  simp [List.getD, hi]

theorem fixedMat_cell (hp : 2 ≤ p) (f : List Nat) {i j : Nat} (hi : i < f.length - 1) (hj : j < f.length - 1) : (p : Int) ∣ cf (rowAt (fixedMat p f) i) j - (cf (powSeq p f (raiseP p [0, 1] p f) j) i - if j = i then 1 else 0) := by
  have e : (rowAt (fixedMat p f) i).getD j 0 = fixedCell p f (raiseP p [0, 1] p f) i j := by rw [fixedMat_row f hi]; simp [List.getD, hj]
  unfold cf
  rw [e]
  unfold fixedCell
  by_cases h : i = j
  · subst h
    rw [if_pos rfl, if_pos rfl]
    have h1 := dvd_mod (p := p) ((powSeq p f (raiseP p [0, 1] p f) i).getD i 0 + p - 1)
    have h2 : (p : Int) ∣ p := ⟨1, by omega⟩
    have h3 := Int.dvd_add h1 h2
    rwa [show ∀ (a b : Nat), (a : Int) - ((b + p - 1 : Nat) : Int) + p = (a : Int) - ((b : Int) - 1) by intro a b; omega] at h3
  · rw [if_neg h, if_neg (fun e => h e.symm), Int.sub_zero, Int.sub_self]; exact ⟨0, by simp⟩

theorem dot_fixed (hp : 2 ≤ p) (f : List Nat) {i : Nat} (hi : i < f.length - 1) (h : Nat → Int) : (p : Int) ∣ dot (f.length - 1) (rowAt (fixedMat p f) i) h - ((sm (f.length - 1) fun j => h j * cf (powSeq p f (raiseP p [0, 1] p f) j) i) - h i) := by
  have e : (sm (f.length - 1) fun j => h j * cf (powSeq p f (raiseP p [0, 1] p f) j) i) - h i = sm (f.length - 1) fun j => (cf (powSeq p f (raiseP p [0, 1] p f) j) i - if j = i then 1 else 0) * h j := by
    have e1 : (fun j => (cf (powSeq p f (raiseP p [0, 1] p f) j) i - if j = i then 1 else 0) * h j) = fun j => h j * cf (powSeq p f (raiseP p [0, 1] p f) j) i + (if j = i then -h i else 0) := by
      funext j
      by_cases hj : j = i
      · subst hj; rw [if_pos rfl, if_pos rfl, Int.sub_mul, Int.one_mul, Int.mul_comm]; omega
      · rw [if_neg hj, if_neg hj, Int.sub_zero, Int.add_zero, Int.mul_comm]
    rw [e1, sm_add, sm_delta hi]; omega
  rw [e]
  unfold dot
  exact sm_dvd_sub fun j hj => dvd_cf_mul (fixedMat_cell hp f hi hj)

theorem ker_iff (hP : M.Pr p) {f : List Nat} (hf : Pol p f) (h2 : 2 ≤ f.length) {h : List Nat} (hh : Pol p h) (hl : h.length < f.length) :
    (∀ i, i < f.length - 1 → (p : Int) ∣ dot (f.length - 1) (rowAt (fixedMat p f) i) (cf h)) ↔ Fx p f h := by
  have hp2 := hP.1
  have hp : 0 < p := by omega
  obtain ⟨n, hn⟩ : ∃ n, n = f.length - 1 := ⟨_, rfl⟩
  obtain ⟨s, hs⟩ : ∃ s, s = raiseP p [0, 1] p f := ⟨_, rfl⟩
  have S : StepIs p f s := hs ▸ step_is hP hf h2
  have P := powSeq_is hP hf h2 S
  have hA : (∀ i, i < n → (p : Int) ∣ dot n (rowAt (fixedMat p f) i) (cf h)) ↔ fsum p f s n h = ev p h := by
    have hd : ∀ i, i < n → ((p : Int) ∣ dot n (rowAt (fixedMat p f) i) (cf h) ↔ (p : Int) ∣ (sm n fun j => cf h j * cf (powSeq p f s j) i) - cf h i) := fun i hi => by
      have h1 := dot_fixed (by omega) f (i := i) (by omega) (cf h)
      rw [← hn, ← hs] at h1
      constructor
      · intro h3
        have := Int.dvd_sub h3 h1
        rwa [Int.sub_sub_self] at this
      · intro h3
        have := Int.dvd_add h1 h3
        rwa [Int.sub_add_cancel] at this
    constructor
    · intro H
      refine Px.eq fun i => ?_
      by_cases hi : i < n
      · obtain ⟨k, hk⟩ := (hd i hi).1 (H i hi)
        exact ⟨k, by omega⟩
      · refine ⟨0, ?_⟩
        rw [cf_out (by omega), sm_zero fun j _ => by rw [cf_out (f := powSeq p f s j) (by have := (P j).2.1; omega), Int.mul_zero]]; simp
    · intro H i hi
      obtain ⟨k, hk⟩ := Px.eqv H i
      simp only at hk
      exact (hd i hi).2 ⟨k, by omega⟩
  rw [hn] at hA
  rw [hA]
  rw [← hn]
  have c := fsum_pw hP hf h2 S (h := h) (n := n) (by omega)
  constructor
  · intro e
    rw [e] at c
    exact c.symm hp
  · intro H
    -- the sum, as a reduced list
    obtain ⟨T, hT⟩ : ∃ T : List Nat, T = trim ((List.range n).map fun i => ((sm n fun j => cf h j * cf (powSeq p f s j) i) % p).toNat) := ⟨_, rfl⟩
    have hTp : Pol p T := by
      rw [hT]
      refine Red.trim fun x hx => ?_
      simp only [List.mem_map, List.mem_range] at hx
      obtain ⟨i, _, rfl⟩ := hx
      have h0 := Int.emod_nonneg (sm n fun j => cf h j * cf (powSeq p f s j) i) (show (p : Int) ≠ 0 by omega)
      have h1 := Int.emod_lt_of_pos (sm n fun j => cf h j * cf (powSeq p f s j) i) (show (0 : Int) < p by omega)
      omega
    have hTl : T.length < f.length := by
      rw [hT, trim_length]
      refine Nat.lt_of_le_of_lt (trimLen_le _) ?_
      simp; omega
    have hTe : ev p T = fsum p f s n h := by
      rw [hT, ev_trim]
      refine Px.eq fun i => ?_
      by_cases hi : i < n
      · have h0 := Int.emod_nonneg (sm n fun j => cf h j * cf (powSeq p f s j) i) (show (p : Int) ≠ 0 by omega)
        refine ⟨-((sm n fun j => cf h j * cf (powSeq p f s j) i) / p), ?_⟩
        have h1 := Int.mul_ediv_add_emod (sm n fun j => cf h j * cf (powSeq p f s j) i) p
        simp only [cf, List.getD_eq_getElem?_getD, List.getElem?_map, List.getElem?_range hi, Option.map_some, Option.getD_some]
        simp only [cf, List.getD_eq_getElem?_getD] at h0 h1
        rw [Int.toNat_of_nonneg h0, Int.mul_neg]
        omega
      · refine ⟨0, ?_⟩
        rw [cf_out (by simp; omega), sm_zero fun j _ => by rw [cf_out (f := powSeq p f s j) (by have := (P j).2.1; omega), Int.mul_zero]]; simp
    rw [← hTe] at c ⊢
    rw [low_cg hP hTp hh hf hTl hl (c.trans hp H)]

end Q
end Go.Proofs.YtgcjdojhfimceaaGreat
