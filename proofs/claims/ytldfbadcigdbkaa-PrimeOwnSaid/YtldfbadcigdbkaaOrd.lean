/- Orders of remainders; a number with a witness is a prime; a polynomial has no more roots than its degree; every prime has a generator. Nothing here speaks of the program. -/
import Derived.Test.YtldfbadcigdbkaaNum
namespace Go.Proofs.Ytldfbadcigdbkaa.M

theorem pow_one_mul {a n m : Nat} (h : a ^ n % m = 1 % m) (k : Nat) : a ^ (n * k) % m = 1 % m := by
  rw [Nat.pow_mul, Nat.pow_mod, h, ← Nat.pow_mod, Nat.one_pow]

theorem pow_one_add {a n m : Nat} (h : a ^ n % m = 1 % m) (k : Nat) : a ^ (n + k) % m = a ^ k % m := by
  rw [Nat.pow_add, Nat.mul_mod, h, ← Nat.mul_mod, Nat.one_mul]

structure IsOrd (a o m : Nat) : Prop where
  pos : 1 ≤ o
  one : a ^ o % m = 1 % m
  least : ∀ k, 1 ≤ k → k < o → a ^ k % m ≠ 1 % m

theorem IsOrd.dvd {a o m n : Nat} (h : IsOrd a o m) (hn : a ^ n % m = 1 % m) : o ∣ n := by
  have hdiv := Nat.div_add_mod n o
  have hlt := Nat.mod_lt n h.pos
  by_cases h0 : n % o = 0
  · exact Nat.dvd_of_mod_eq_zero h0
  · have h1 : a ^ (n % o) % m = 1 % m := by
      rw [← hn, ← pow_one_add (pow_one_mul h.one (n / o)) (n % o), hdiv]
    exact absurd h1 (h.least _ (by omega) hlt)

theorem exists_ord {a n m : Nat} (h1 : 1 ≤ n) (h : a ^ n % m = 1 % m) : ∃ o, IsOrd a o m := by
  suffices H : ∀ b n, n ≤ b → 1 ≤ n → a ^ n % m = 1 % m → ∃ o, IsOrd a o m from H n n (Nat.le_refl n) h1 h
  intro b
  induction b with
  | zero => intro n h0 h1; omega
  | succ b ih =>
    intro n hb h1 h
    by_cases hk : ∃ k, 1 ≤ k ∧ k < n ∧ a ^ k % m = 1 % m
    · obtain ⟨k, hk1, hk2, hk3⟩ := hk
      exact ih k (by omega) hk1 hk3
    · exact ⟨n, h1, h, fun k hk1 hk2 hk3 => hk ⟨k, hk1, hk2, hk3⟩⟩

theorem IsOrd.unique {a o o' m : Nat} (h : IsOrd a o m) (h' : IsOrd a o' m) : o = o' :=
  Nat.dvd_antisymm (h.dvd h'.one) (h'.dvd h.one)

/-- An exponent that works, while none of it divided by one of its primes does, is the order. -/
theorem isOrd_of {a e m : Nat} (h1 : 1 ≤ e) (h : a ^ e % m = 1 % m) (hq : ∀ q, Pr q → q ∣ e → a ^ (e / q) % m ≠ 1 % m) : IsOrd a e m := by
  obtain ⟨o, ho⟩ := exists_ord h1 h
  obtain ⟨k, hk⟩ := ho.dvd h
  by_cases h2 : k = 1
  · subst h2; rw [Nat.mul_one] at hk; exact hk ▸ ho
  · have hk0 : k ≠ 0 := fun e0 => by subst e0; omega
    obtain ⟨q, hqp, c, hc⟩ := exists_prime k (by omega)
    have hq2 := hqp.1
    exfalso
    refine hq q hqp ⟨o * c, by rw [hk, hc]; ac_rfl⟩ ?_
    have : e / q = o * c := by
      rw [hk, hc, show o * (q * c) = q * (o * c) by ac_rfl, Nat.mul_div_cancel_left _ (by omega)]
    rw [this]
    exact pow_one_mul ho.one c

theorem isOrd_div {a e m q : Nat} (h : IsOrd a e m) (hq : 2 ≤ q) (hd : q ∣ e) : a ^ (e / q) % m ≠ 1 % m := by
  have h1 := h.pos
  refine h.least _ (Nat.div_pos (Nat.le_of_dvd h1 hd) (by omega)) (Nat.div_lt_self h1 (by omega))

/-- Powers below the order are different. -/
theorem IsOrd.inj {a o m : Nat} (h : IsOrd a o m) : ∀ {i j : Nat}, i < j → j < o → a ^ i % m ≠ a ^ j % m := by
  intro i j hij hj he
  have h1 : a ^ (o - j + i) % m = 1 % m := by
    rw [Nat.pow_add, Nat.mul_mod, he, ← Nat.mul_mod, ← Nat.pow_add, show o - j + j = o by omega]
    exact h.one
  exact h.least _ (by omega) (by omega) h1

theorem coprime_of_pow {a n m : Nat} (hn : 1 ≤ n) (h : a ^ n % m = 1 % m) : Nat.Coprime a m := by
  have hg1 : Nat.gcd a m ∣ a ^ n := Nat.dvd_trans (Nat.gcd_dvd_left a m) ⟨a ^ (n - 1), by rw [← Nat.pow_succ']; congr 1; omega⟩
  have hg2 : Nat.gcd a m ∣ m := Nat.gcd_dvd_right a m
  have h3 : Nat.gcd a m ∣ a ^ n % m := (Nat.dvd_mod_iff hg2).2 hg1
  rw [h] at h3
  have h4 : Nat.gcd a m ∣ 1 := (Nat.dvd_mod_iff hg2).1 h3
  exact Nat.dvd_one.1 h4

/-- All remainders that are not 0 are powers of a witness. -/
theorem powers_all {w P : Nat} (hP : 2 ≤ P) (h : IsOrd w (P - 1) P) {x : Nat} (h1 : 1 ≤ x) (hx : x < P) : ∃ i, i < P - 1 ∧ w ^ i % P = x := by
  have hcop := coprime_of_pow h.pos h.one
  have hmem : ∀ x, x ∈ List.range' 1 (P - 1) ↔ 1 ≤ x ∧ x < P := by intro x; rw [List.mem_range'_1]; omega
  have hperm : ((List.range (P - 1)).map fun i => w ^ i % P).Perm (List.range' 1 (P - 1)) := by
    refine perm_of_nodup ?_ ?_ (by simp)
    · rw [List.nodup_iff_pairwise_ne, List.pairwise_map]
      refine List.Pairwise.imp_of_mem ?_ (List.pairwise_lt_range (n := P - 1))
      intro i j hi hj hij
      exact h.inj hij (List.mem_range.1 hj)
    · intro y hy
      obtain ⟨i, hi, rfl⟩ := List.mem_map.1 hy
      rw [hmem]
      have hlt := Nat.mod_lt (w ^ i) (show 0 < P by omega)
      refine ⟨?_, hlt⟩
      apply Nat.pos_of_ne_zero
      intro e0
      have hc : Nat.Coprime (w ^ i) P := by simpa using Nat.Coprime.pow_left i hcop
      have : P ∣ 1 := by
        have hd : P ∣ w ^ i := Nat.dvd_of_mod_eq_zero e0
        have := Nat.dvd_gcd hd (Nat.dvd_refl P)
        rwa [hc] at this
      have := Nat.le_of_dvd (by omega) this
      omega
  have := hperm.mem_iff.2 ((hmem x).2 ⟨h1, hx⟩)
  obtain ⟨i, hi, he⟩ := List.mem_map.1 this
  exact ⟨i, List.mem_range.1 hi, he⟩

theorem prime_of_ord {w P : Nat} (hP : 2 ≤ P) (h : IsOrd w (P - 1) P) : Pr P := by
  refine ⟨hP, fun d hd => ?_⟩
  have hd0 : 0 < d := Nat.pos_of_dvd_of_pos hd (by omega)
  have hdle := Nat.le_of_dvd (by omega) hd
  by_cases he : d = P
  · exact .inr he
  · left
    obtain ⟨i, hi, hw⟩ := powers_all hP h hd0 (by omega)
    have hcop := coprime_of_pow h.pos h.one
    have hc : Nat.Coprime (w ^ i) P := by simpa using Nat.Coprime.pow_left i hcop
    have h1 : d ∣ w ^ i := by
      rw [← Nat.div_add_mod (w ^ i) P, hw]
      exact Nat.dvd_add (Nat.dvd_trans hd (Nat.dvd_mul_right _ _)) (Nat.dvd_refl d)
    have := Nat.dvd_gcd h1 hd
    rw [hc] at this
    exact Nat.dvd_one.1 this

/-- A witness proves that the number is a prime. -/
theorem pratt {w P : Nat} (hP : 2 ≤ P) (h : w ^ (P - 1) % P = 1) (hq : ∀ q, Pr q → q ∣ P - 1 → w ^ ((P - 1) / q) % P ≠ 1) : Pr P := by
  have h1 : 1 % P = 1 := Nat.mod_eq_of_lt (by omega)
  exact prime_of_ord hP (isOrd_of (by omega) (by rw [h1]; exact h) (by rw [h1]; exact hq))

/-! ### Roots of polynomials, the least coefficient first -/
def ev : List Int → Int → Int
  | [], _ => 0
  | c :: f, x => c + x * ev f x

def quo : List Int → Int → List Int
  | [], _ => []
  | [_], _ => []
  | _ :: c :: f, r => ev (c :: f) r :: quo (c :: f) r

theorem ev_quo (x r : Int) : ∀ f : List Int, ev f x - ev f r = (x - r) * ev (quo f r) x
  | [] => by simp [ev, quo]
  | [c] => by simp [ev, quo]
  | c :: d :: f => by
    have ih := ev_quo x r (d :: f)
    have e1 : ev (c :: d :: f) x = c + x * ev (d :: f) x := rfl
    have e2 : ev (c :: d :: f) r = c + r * ev (d :: f) r := rfl
    have e3 : ev (quo (c :: d :: f) r) x = ev (d :: f) r + x * ev (quo (d :: f) r) x := rfl
    rw [e1, e2, e3]
    generalize ev (d :: f) x = A at *
    generalize ev (d :: f) r = B at *
    generalize ev (quo (d :: f) r) x = C at *
    have : x * (A - B) = x * ((x - r) * C) := by rw [ih]
    grind

theorem quo_length (r : Int) : ∀ f : List Int, (quo f r).length = f.length - 1
  | [] => rfl
  | [_] => rfl
  | c :: d :: f => by
    have := quo_length r (d :: f)
    simp [quo, this]

theorem quo_last (r : Int) : ∀ f : List Int, 2 ≤ f.length → (quo f r).getLast? = f.getLast?
  | [], h => by simp at h
  | [_], h => by simp at h
  | [c, d], _ => by simp [quo, ev]
  | c :: d :: e :: f, _ => by
    have := quo_last r (d :: e :: f) (by simp)
    rw [show quo (c :: d :: e :: f) r = ev (d :: e :: f) r :: quo (d :: e :: f) r from rfl]
    have hne : quo (d :: e :: f) r ≠ [] := by simp [quo]
    rw [List.getLast?_cons_of_ne_nil hne, this]
    simp [List.getLast?_cons_cons]

theorem Pr.int_dvd_mul {p : Nat} (h : Pr p) {a b : Int} (hd : (p : Int) ∣ a * b) : (p : Int) ∣ a ∨ (p : Int) ∣ b := by
  have h1 : p ∣ a.natAbs * b.natAbs := by
    rw [← Int.natAbs_mul]; exact Int.ofNat_dvd_left.1 hd
  rcases h.dvd_mul h1 with h2 | h2
  · exact .inl (Int.ofNat_dvd_left.2 h2)
  · exact .inr (Int.ofNat_dvd_left.2 h2)

theorem roots_le {p : Nat} (h : Pr p) : ∀ (n : Nat) (f : List Int) (R : List Nat), f.length = n + 1 → (∀ c, f.getLast? = some c → ¬ (p : Int) ∣ c) →
    R.Nodup → (∀ x ∈ R, x < p ∧ (p : Int) ∣ ev f x) → R.length ≤ n := by
  intro n
  induction n with
  | zero =>
    intro f R hf hc hR hx
    match f, hf with
    | [c], _ =>
      match R with
      | [] => simp
      | x :: R =>
        have := (hx x (by simp)).2
        simp [ev] at this
        exact absurd this (hc c rfl)
  | succ n ih =>
    intro f R hf hc hR hx
    match R, hR with
    | [], _ => simp
    | r :: R, hR =>
      have hr := hx r (by simp)
      have hn := List.nodup_cons.1 hR
      have := ih (quo f r) R (by rw [quo_length, hf]; omega) (by rw [quo_last _ _ (by omega)]; exact hc) hn.2 (fun x hxR => by
        have hxx := hx x (by simp [hxR])
        refine ⟨hxx.1, ?_⟩
        have hd : (p : Int) ∣ (x - r) * ev (quo f r) x := by rw [← ev_quo]; exact Int.dvd_sub hxx.2 hr.2
        rcases h.int_dvd_mul hd with h1 | h1
        · exfalso
          have hne : x ≠ r := fun e => hn.1 (e ▸ hxR)
          obtain ⟨k, hk⟩ := h1
          have hxp := hxx.1
          have hrp := hr.1
          rcases (show k < 0 ∨ 0 ≤ k by omega) with h0 | h0
          · have : (p : Int) * k ≤ p * (-1) := Int.mul_le_mul_of_nonneg_left (by omega) (by omega)
            omega
          · rcases (show 0 < k ∨ k ≤ 0 by omega) with h2 | h2
            · have : (p : Int) * 1 ≤ p * k := Int.mul_le_mul_of_nonneg_left (by omega) (by omega)
              omega
            · have : k = 0 := by omega
              subst this; simp at hk; omega
        · exact h1)
      simp; omega

def powPoly (d : Nat) : List Int := -1 :: (List.replicate (d - 1) 0 ++ [1])

theorem ev_zeros (x : Int) (f : List Int) : ∀ k, ev (List.replicate k 0 ++ f) x = x ^ k * ev f x
  | 0 => by simp
  | k + 1 => by
    rw [List.replicate_succ, List.cons_append]
    show 0 + x * ev (List.replicate k 0 ++ f) x = _
    rw [ev_zeros x f k, Int.pow_succ]
    grind

theorem ev_powPoly (d : Nat) (hd : 1 ≤ d) (x : Int) : ev (powPoly d) x = x ^ d - 1 := by
  show -1 + x * ev (List.replicate (d - 1) 0 ++ [1]) x = _
  rw [ev_zeros]
  have : ev [1] x = 1 := by simp [ev]
  rw [this]
  obtain ⟨k, rfl⟩ : ∃ k, d = k + 1 := ⟨d - 1, by omega⟩
  rw [Nat.add_sub_cancel, Int.pow_succ]
  grind

/-- At most d numbers below a prime have 1 as their power with the exponent d. -/
theorem roots_of_one {p d : Nat} (h : Pr p) (hd : 1 ≤ d) (R : List Nat) (hR : R.Nodup) (hx : ∀ x ∈ R, x < p ∧ x ^ d % p = 1) : R.length ≤ d := by
  have h2 := h.1
  refine roots_le h d (powPoly d) R (by simp [powPoly]; omega) ?_ hR ?_
  · intro c hc
    have : (powPoly d).getLast? = some 1 := by
      show (-1 :: (List.replicate (d - 1) 0 ++ [(1 : Int)])).getLast? = _
      rw [← List.cons_append, List.getLast?_concat]
    rw [this] at hc
    simp at hc
    subst hc
    intro hdv
    have := Int.le_of_dvd (by omega) hdv
    omega
  · intro x hxR
    obtain ⟨h3, h4⟩ := hx x hxR
    refine ⟨h3, ?_⟩
    rw [ev_powPoly d hd]
    have e : ((x ^ d : Nat) : Int) = (x : Int) ^ d := by simp
    rw [← e]
    have h5 := Nat.div_add_mod (x ^ d) p
    rw [h4] at h5
    have h6 : ((p * (x ^ d / p) + 1 : Nat) : Int) = ((x ^ d : Nat) : Int) := by rw [h5]
    rw [Int.natCast_add, Int.natCast_mul] at h6
    exact ⟨((x ^ d / p : Nat) : Int), by rw [← h6]; omega⟩

/-- Some remainder has a power other than 1, where the exponent is less than p - 1. -/
theorem exists_other {p d : Nat} (h : Pr p) (hd : 1 ≤ d) (hlt : d < p - 1) : ∃ x, 1 ≤ x ∧ x < p ∧ x ^ d % p ≠ 1 := by
  refine Classical.byContradiction fun hno => ?_
  have hall : ∀ x, 1 ≤ x → x < p → x ^ d % p = 1 := fun x h1 h2 => Classical.byContradiction fun h3 => hno ⟨x, h1, h2, h3⟩
  have := roots_of_one h hd (List.range' 1 (p - 1)) (List.nodup_range' ..) (fun x hx => by
    rw [List.mem_range'_1] at hx
    exact ⟨by omega, hall x (by omega) (by omega)⟩)
  simp at this
  omega

end Go.Proofs.Ytldfbadcigdbkaa.M
