/- Walks and plain mathematics: WalkPow, Num, Ord, Fac, Eul. -/
import Derived.Test.YtbehihanhfmmhaaGreatRows
import Derived.Test.YtbehihanhfmmhaaGreatG00
import Derived.WalkKit
import Derived.WalkSpells
import Derived.WalkLawsBesides
import Derived.Lib.Hide
namespace Go.Proofs.YtbehihanhfmmhaaGreat
open Go.RowKit

theorem ret_i {a b : Int} (h : a = b) : Ending.returned (.int .i64 a) = .returned (.int .i64 b) := by rw [h]

end Go.Proofs.YtbehihanhfmmhaaGreat
namespace Go.Proofs.YtbehihanhfmmhaaGreat.M

def Pr (p : Nat) : Prop := 2 ≤ p ∧ ∀ d, d ∣ p → d = 1 ∨ d = p

theorem Pr.two {p : Nat} (h : Pr p) : 2 ≤ p := h.1

theorem Pr.cop {p a : Nat} (h : Pr p) (ha : ¬ p ∣ a) : Nat.Coprime p a := by
  rcases h.2 (Nat.gcd p a) (Nat.gcd_dvd_left p a) with h1 | h1
  · exact h1
  · exact absurd (h1 ▸ Nat.gcd_dvd_right p a) ha

theorem Pr.dvd_mul {p a b : Nat} (h : Pr p) (hd : p ∣ a * b) : p ∣ a ∨ p ∣ b := by
  by_cases ha : p ∣ a
  · exact .inl ha
  · exact .inr ((h.cop ha).dvd_of_dvd_mul_left hd)

theorem Pr.dvd_pow {p a : Nat} (h : Pr p) : ∀ {n : Nat}, p ∣ a ^ n → p ∣ a
  | 0, hd => by rw [Nat.pow_zero] at hd; have := Nat.le_of_dvd (by omega) hd; have := h.1; omega
  | n + 1, hd => by
    rw [Nat.pow_succ] at hd
    rcases h.dvd_mul hd with h1 | h1
    · exact Pr.dvd_pow h h1
    · exact h1

theorem not_dvd_of_lt {p a : Nat} (h0 : 0 < a) (h : a < p) : ¬ p ∣ a := fun hd => by have := Nat.le_of_dvd h0 hd; omega

/-- The least divisor from 2 on is a prime. -/
theorem least_prime {n d : Nat} (h2 : 2 ≤ d) (hd : d ∣ n) (hmin : ∀ k, 2 ≤ k → k ∣ n → d ≤ k) : Pr d := by
  refine ⟨h2, fun k hk => ?_⟩
  have hk0 : 0 < k := Nat.pos_of_dvd_of_pos hk (by omega)
  by_cases h1 : k = 1
  · exact .inl h1
  · have := hmin k (by omega) (Nat.dvd_trans hk hd)
    have := Nat.le_of_dvd (by omega) hk
    exact .inr (by omega)

theorem exists_least (n : Nat) (h : 2 ≤ n) : ∃ d, 2 ≤ d ∧ d ∣ n ∧ ∀ k, 2 ≤ k → k ∣ n → d ≤ k := by
  suffices H : ∀ m, (∃ d, 2 ≤ d ∧ d ∣ n ∧ d ≤ m) → ∃ d, 2 ≤ d ∧ d ∣ n ∧ ∀ k, 2 ≤ k → k ∣ n → d ≤ k from H n ⟨n, h, Nat.dvd_refl n, Nat.le_refl n⟩
  intro m
  induction m with
  | zero => rintro ⟨d, h1, _, h3⟩; omega
  | succ m ih =>
    rintro ⟨d, h1, h2, h3⟩
    by_cases hm : ∃ d, 2 ≤ d ∧ d ∣ n ∧ d ≤ m
    · exact ih hm
    · refine ⟨d, h1, h2, fun k hk hkn => ?_⟩
      by_cases hkm : k ≤ m
      · exact absurd ⟨k, hk, hkn, hkm⟩ hm
      · omega

theorem exists_prime (n : Nat) (h : 2 ≤ n) : ∃ p, Pr p ∧ p ∣ n := by
  obtain ⟨d, h1, h2, h3⟩ := exists_least n h
  exact ⟨d, least_prime h1 h2 h3, h2⟩

/-! ### Lists -/
theorem perm_of_nodup {l₁ l₂ : List Nat} (h1 : l₁.Nodup) (hs : l₁ ⊆ l₂) (hl : l₂.length ≤ l₁.length) : l₁.Perm l₂ := by
  induction l₁ generalizing l₂ with
  | nil => have : l₂ = [] := List.eq_nil_of_length_eq_zero (by simpa using hl); subst this; exact List.Perm.refl _
  | cons a l ih =>
    have ha : a ∈ l₂ := hs (by simp)
    have hp := List.perm_cons_erase ha
    refine List.Perm.trans (List.Perm.cons a (ih (List.nodup_cons.1 h1).2 ?_ ?_)) hp.symm
    · intro x hx
      have hxa : x ≠ a := fun e => (List.nodup_cons.1 h1).1 (e ▸ hx)
      exact (List.mem_erase_of_ne hxa).2 (hs (by simp [hx]))
    · rw [List.length_erase_of_mem ha]; simp at hl; omega

theorem prod_perm {l₁ l₂ : List Nat} (h : l₁.Perm l₂) : l₁.prod = l₂.prod := by
  induction h with
  | nil => rfl
  | cons x _ ih => simp [ih]
  | swap x y l => simp [Nat.mul_left_comm]
  | trans _ _ h1 h2 => exact h1.trans h2

theorem prod_mod_map (a p : Nat) (l : List Nat) : (l.map fun i => a * i % p).prod % p = a ^ l.length * l.prod % p := by
  induction l with
  | nil => simp
  | cons x l ih =>
    simp only [List.map_cons, List.prod_cons, List.length_cons]
    rw [Nat.mul_mod, ih, Nat.mod_mod, ← Nat.mul_mod]
    congr 1
    rw [Nat.pow_succ]; ac_rfl

theorem Pr.not_dvd_prod {p : Nat} (h : Pr p) {l : List Nat} (hl : ∀ x ∈ l, ¬ p ∣ x) : ¬ p ∣ l.prod := by
  induction l with
  | nil => intro hd; rw [List.prod_nil] at hd; have := Nat.le_of_dvd (by omega) hd; have := h.1; omega
  | cons x l ih =>
    rw [List.prod_cons]
    intro hd
    rcases h.dvd_mul hd with h1 | h1
    · exact hl x (by simp) h1
    · exact ih (fun y hy => hl y (by simp [hy])) h1

/-- What may be divided out. -/
theorem cancel_mod {p a b c : Nat} (hp : Nat.Coprime p c) (h : a * c % p = b * c % p) : a % p = b % p := by
  have key : ∀ {a b : Nat}, b ≤ a → a * c % p = b * c % p → a % p = b % p := by
    intro a b hab h
    have h1 : p ∣ (a - b) * c := by
      rw [Nat.sub_mul]
      exact Nat.dvd_of_mod_eq_zero (Nat.sub_mod_eq_zero_of_mod_eq h)
    have h2 : p ∣ a - b := hp.dvd_of_dvd_mul_right h1
    obtain ⟨k, hk⟩ := h2
    have : a = b + p * k := by omega
    rw [this, Nat.add_mul_mod_self_left]
  rcases Nat.le_total b a with hab | hab
  · exact key hab h
  · exact (key hab h.symm).symm

theorem fermat {p a : Nat} (h : Pr p) (ha : ¬ p ∣ a) : a ^ (p - 1) % p = 1 := by
  have h2 := h.1
  have hL : (List.range' 1 (p - 1)).length = p - 1 := List.length_range'
  have hmem : ∀ x, x ∈ List.range' 1 (p - 1) ↔ 1 ≤ x ∧ x < p := by intro x; rw [List.mem_range'_1]; omega
  have hcop := h.cop ha
  have hperm : ((List.range' 1 (p - 1)).map fun i => a * i % p).Perm (List.range' 1 (p - 1)) := by
    refine perm_of_nodup ?_ ?_ (by simp)
    · rw [List.nodup_iff_pairwise_ne, List.pairwise_map]
      refine List.Pairwise.imp_of_mem ?_ (List.pairwise_lt_range' (s := 1) (n := p - 1))
      intro x y hx hy hxy he
      rw [hmem] at hx hy
      have := cancel_mod hcop (a := x) (b := y) (by rw [Nat.mul_comm x, Nat.mul_comm y]; exact he)
      rw [Nat.mod_eq_of_lt hx.2, Nat.mod_eq_of_lt hy.2] at this
      omega
    · intro y hy
      obtain ⟨x, hx, rfl⟩ := List.mem_map.1 hy
      rw [hmem] at hx ⊢
      have : a * x % p ≠ 0 := fun e => by
        rcases h.dvd_mul (Nat.dvd_of_mod_eq_zero e) with h1 | h1
        · exact ha h1
        · exact not_dvd_of_lt (by omega) hx.2 h1
      have := Nat.mod_lt (a * x) (show 0 < p by omega)
      omega
  have hprod := prod_perm hperm
  have hm := prod_mod_map a p (List.range' 1 (p - 1))
  rw [hprod, hL] at hm
  have hnd : ¬ p ∣ (List.range' 1 (p - 1)).prod := h.not_dvd_prod fun x hx => by rw [hmem] at hx; exact not_dvd_of_lt (by omega) hx.2
  have hc := cancel_mod (h.cop hnd) (a := 1) (b := a ^ (p - 1)) (by rw [Nat.one_mul]; exact hm)
  rw [← hc, Nat.mod_eq_of_lt (by omega)]

end Go.Proofs.YtbehihanhfmmhaaGreat.M

namespace Go.Proofs.YtbehihanhfmmhaaGreat.M

theorem pow_one_mul {a n m : Nat} (h : a ^ n % m = 1 % m) (k : Nat) : a ^ (n * k) % m = 1 % m := by
  rw [Nat.pow_mul, Nat.pow_mod, h, ← Nat.pow_mod, Nat.one_pow]

theorem pow_one_add {a n m : Nat} (h : a ^ n % m = 1 % m) (k : Nat) : a ^ (n + k) % m = a ^ k % m := by
  rw [Nat.pow_add, Nat.mul_mod, h, ← Nat.mul_mod, Nat.one_mul]

structure IsOrd (a o m : Nat) : Prop where
  pos : 1 ≤ o
  one : a ^ o % m = 1 % m
  least : ∀ k, 1 ≤ k → k < o → a ^ k % m ≠ 1 % m

theorem IsOrd.dvd {a o m n : Nat} (h : IsOrd a o m) (hn : a ^ n % m = 1 % m) : o ∣ n := by
  have hdiv := Nat.div_add_mod n o
  have hlt := Nat.mod_lt n h.pos
  by_cases h0 : n % o = 0
  · exact Nat.dvd_of_mod_eq_zero h0
  · have h1 : a ^ (n % o) % m = 1 % m := by
      rw [← hn, ← pow_one_add (pow_one_mul h.one (n / o)) (n % o), hdiv]
    exact absurd h1 (h.least _ (by omega) hlt)

theorem exists_ord {a n m : Nat} (h1 : 1 ≤ n) (h : a ^ n % m = 1 % m) : ∃ o, IsOrd a o m := by
  suffices H : ∀ b n, n ≤ b → 1 ≤ n → a ^ n % m = 1 % m → ∃ o, IsOrd a o m from H n n (Nat.le_refl n) h1 h
  intro b
  induction b with
  | zero => intro n h0 h1; omega
  | succ b ih =>
    intro n hb h1 h
    by_cases hk : ∃ k, 1 ≤ k ∧ k < n ∧ a ^ k % m = 1 % m
    · obtain ⟨k, hk1, hk2, hk3⟩ := hk
      exact ih k (by omega) hk1 hk3
    · exact ⟨n, h1, h, fun k hk1 hk2 hk3 => hk ⟨k, hk1, hk2, hk3⟩⟩

theorem IsOrd.unique {a o o' m : Nat} (h : IsOrd a o m) (h' : IsOrd a o' m) : o = o' :=
  Nat.dvd_antisymm (h.dvd h'.one) (h'.dvd h.one)

/-- An exponent that works, while none of it divided by one of its primes does, is the order. -/
theorem isOrd_of {a e m : Nat} (h1 : 1 ≤ e) (h : a ^ e % m = 1 % m) (hq : ∀ q, Pr q → q ∣ e → a ^ (e / q) % m ≠ 1 % m) : IsOrd a e m := by
  obtain ⟨o, ho⟩ := exists_ord h1 h
  obtain ⟨k, hk⟩ := ho.dvd h
  by_cases h2 : k = 1
  · subst h2; rw [Nat.mul_one] at hk; exact hk ▸ ho
  · have hk0 : k ≠ 0 := fun e0 => by subst e0; omega
    obtain ⟨q, hqp, c, hc⟩ := exists_prime k (by omega)
    have hq2 := hqp.1
    exfalso
    refine hq q hqp ⟨o * c, by rw [hk, hc]; ac_rfl⟩ ?_
    have : e / q = o * c := by
      rw [hk, hc, show o * (q * c) = q * (o * c) by ac_rfl, Nat.mul_div_cancel_left _ (by omega)]
    rw [this]
    exact pow_one_mul ho.one c

theorem isOrd_div {a e m q : Nat} (h : IsOrd a e m) (hq : 2 ≤ q) (hd : q ∣ e) : a ^ (e / q) % m ≠ 1 % m := by
  have h1 := h.pos
  refine h.least _ (Nat.div_pos (Nat.le_of_dvd h1 hd) (by omega)) (Nat.div_lt_self h1 (by omega))

/-- Powers below the order are different. -/
theorem IsOrd.inj {a o m : Nat} (h : IsOrd a o m) : ∀ {i j : Nat}, i < j → j < o → a ^ i % m ≠ a ^ j % m := by
  intro i j hij hj he
  have h1 : a ^ (o - j + i) % m = 1 % m := by
    rw [Nat.pow_add, Nat.mul_mod, he, ← Nat.mul_mod, ← Nat.pow_add, show o - j + j = o by omega]
    exact h.one
  exact h.least _ (by omega) (by omega) h1

theorem coprime_of_pow {a n m : Nat} (hn : 1 ≤ n) (h : a ^ n % m = 1 % m) : Nat.Coprime a m := by
  have hg1 : Nat.gcd a m ∣ a ^ n := Nat.dvd_trans (Nat.gcd_dvd_left a m) ⟨a ^ (n - 1), by rw [← Nat.pow_succ']; congr 1; omega⟩
  have hg2 : Nat.gcd a m ∣ m := Nat.gcd_dvd_right a m
  have h3 : Nat.gcd a m ∣ a ^ n % m := (Nat.dvd_mod_iff hg2).2 hg1
  rw [h] at h3
  have h4 : Nat.gcd a m ∣ 1 := (Nat.dvd_mod_iff hg2).1 h3
  exact Nat.dvd_one.1 h4

/-- All remainders that are not 0 are powers of a witness. -/
theorem powers_all {w P : Nat} (hP : 2 ≤ P) (h : IsOrd w (P - 1) P) {x : Nat} (h1 : 1 ≤ x) (hx : x < P) : ∃ i, i < P - 1 ∧ w ^ i % P = x := by
  have hcop := coprime_of_pow h.pos h.one
  have hmem : ∀ x, x ∈ List.range' 1 (P - 1) ↔ 1 ≤ x ∧ x < P := by intro x; rw [List.mem_range'_1]; omega
  have hperm : ((List.range (P - 1)).map fun i => w ^ i % P).Perm (List.range' 1 (P - 1)) := by
    refine perm_of_nodup ?_ ?_ (by simp)
    · rw [List.nodup_iff_pairwise_ne, List.pairwise_map]
      refine List.Pairwise.imp_of_mem ?_ (List.pairwise_lt_range (n := P - 1))
      intro i j hi hj hij
      exact h.inj hij (List.mem_range.1 hj)
    · intro y hy
      obtain ⟨i, hi, rfl⟩ := List.mem_map.1 hy
      rw [hmem]
      have hlt := Nat.mod_lt (w ^ i) (show 0 < P by omega)
      refine ⟨?_, hlt⟩
      apply Nat.pos_of_ne_zero
      intro e0
      have hc : Nat.Coprime (w ^ i) P := by simpa using Nat.Coprime.pow_left i hcop
      have : P ∣ 1 := by
        have hd : P ∣ w ^ i := Nat.dvd_of_mod_eq_zero e0
        have := Nat.dvd_gcd hd (Nat.dvd_refl P)
        rwa [hc] at this
      have := Nat.le_of_dvd (by omega) this
      omega
  have := hperm.mem_iff.2 ((hmem x).2 ⟨h1, hx⟩)
  obtain ⟨i, hi, he⟩ := List.mem_map.1 this
  exact ⟨i, List.mem_range.1 hi, he⟩

theorem prime_of_ord {w P : Nat} (hP : 2 ≤ P) (h : IsOrd w (P - 1) P) : Pr P := by
  refine ⟨hP, fun d hd => ?_⟩
  have hd0 : 0 < d := Nat.pos_of_dvd_of_pos hd (by omega)
  have hdle := Nat.le_of_dvd (by omega) hd
  by_cases he : d = P
  · exact .inr he
  · left
    obtain ⟨i, hi, hw⟩ := powers_all hP h hd0 (by omega)
    have hcop := coprime_of_pow h.pos h.one
    have hc : Nat.Coprime (w ^ i) P := by simpa using Nat.Coprime.pow_left i hcop
    have h1 : d ∣ w ^ i := by
      rw [← Nat.div_add_mod (w ^ i) P, hw]
      exact Nat.dvd_add (Nat.dvd_trans hd (Nat.dvd_mul_right _ _)) (Nat.dvd_refl d)
    have := Nat.dvd_gcd h1 hd
    rw [hc] at this
    exact Nat.dvd_one.1 this

/-- A witness proves that the number is a prime. -/
theorem pratt {w P : Nat} (hP : 2 ≤ P) (h : w ^ (P - 1) % P = 1) (hq : ∀ q, Pr q → q ∣ P - 1 → w ^ ((P - 1) / q) % P ≠ 1) : Pr P := by
  have h1 : 1 % P = 1 := Nat.mod_eq_of_lt (by omega)
  exact prime_of_ord hP (isOrd_of (by omega) (by rw [h1]; exact h) (by rw [h1]; exact hq))

/-! ### Roots of polynomials, the least coefficient first -/
def ev : List Int → Int → Int
  | [], _ => 0
  | c :: f, x => c + x * ev f x

def quo : List Int → Int → List Int
  | [], _ => []
  | [_], _ => []
  | _ :: c :: f, r => ev (c :: f) r :: quo (c :: f) r

theorem ev_quo (x r : Int) : ∀ f : List Int, ev f x - ev f r = (x - r) * ev (quo f r) x
  | [] => by simp [ev, quo]
  | [c] => by simp [ev, quo]
  | c :: d :: f => by
    have ih := ev_quo x r (d :: f)
    have e1 : ev (c :: d :: f) x = c + x * ev (d :: f) x := rfl
    have e2 : ev (c :: d :: f) r = c + r * ev (d :: f) r := rfl
    have e3 : ev (quo (c :: d :: f) r) x = ev (d :: f) r + x * ev (quo (d :: f) r) x := rfl
    rw [e1, e2, e3]
    generalize ev (d :: f) x = A at *
    generalize ev (d :: f) r = B at *
    generalize ev (quo (d :: f) r) x = C at *
    have : x * (A - B) = x * ((x - r) * C) := by rw [ih]
    grind

theorem quo_length (r : Int) : ∀ f : List Int, (quo f r).length = f.length - 1
  | [] => rfl
  | [_] => rfl
  | c :: d :: f => by
    have := quo_length r (d :: f)
    simp [quo, this]

theorem quo_last (r : Int) : ∀ f : List Int, 2 ≤ f.length → (quo f r).getLast? = f.getLast?
  | [], h => by simp at h
  | [_], h => by simp at h
  | [c, d], _ => by simp [quo, ev]
  | c :: d :: e :: f, _ => by
    have := quo_last r (d :: e :: f) (by simp)
    rw [show quo (c :: d :: e :: f) r = ev (d :: e :: f) r :: quo (d :: e :: f) r from rfl]
    have hne : quo (d :: e :: f) r ≠ [] := by simp [quo]
    rw [List.getLast?_cons_of_ne_nil hne, this]
    simp [List.getLast?_cons_cons]

theorem Pr.int_dvd_mul {p : Nat} (h : Pr p) {a b : Int} (hd : (p : Int) ∣ a * b) : (p : Int) ∣ a ∨ (p : Int) ∣ b := by
  have h1 : p ∣ a.natAbs * b.natAbs := by
    rw [← Int.natAbs_mul]; exact Int.ofNat_dvd_left.1 hd
  rcases h.dvd_mul h1 with h2 | h2
  · exact .inl (Int.ofNat_dvd_left.2 h2)
  · exact .inr (Int.ofNat_dvd_left.2 h2)

theorem roots_le {p : Nat} (h : Pr p) : ∀ (n : Nat) (f : List Int) (R : List Nat), f.length = n + 1 → (∀ c, f.getLast? = some c → ¬ (p : Int) ∣ c) →
    R.Nodup → (∀ x ∈ R, x < p ∧ (p : Int) ∣ ev f x) → R.length ≤ n := by
  intro n
  induction n with
  | zero =>
    intro f R hf hc hR hx
    match f, hf with
    | [c], _ =>
      match R with
      | [] => simp
      | x :: R =>
        have := (hx x (by simp)).2
        simp [ev] at this
        exact absurd this (hc c rfl)
  | succ n ih =>
    intro f R hf hc hR hx
    match R, hR with
    | [], _ => simp
    | r :: R, hR =>
      have hr := hx r (by simp)
      have hn := List.nodup_cons.1 hR
      have := ih (quo f r) R (by rw [quo_length, hf]; omega) (by rw [quo_last _ _ (by omega)]; exact hc) hn.2 (fun x hxR => by
        have hxx := hx x (by simp [hxR])
        refine ⟨hxx.1, ?_⟩
        have hd : (p : Int) ∣ (x - r) * ev (quo f r) x := by rw [← ev_quo]; exact Int.dvd_sub hxx.2 hr.2
        rcases h.int_dvd_mul hd with h1 | h1
        · exfalso
          have hne : x ≠ r := fun e => hn.1 (e ▸ hxR)
          obtain ⟨k, hk⟩ := h1
          have hxp := hxx.1
          have hrp := hr.1
          rcases (show k < 0 ∨ 0 ≤ k by omega) with h0 | h0
          · have : (p : Int) * k ≤ p * (-1) := Int.mul_le_mul_of_nonneg_left (by omega) (by omega)
            omega
          · rcases (show 0 < k ∨ k ≤ 0 by omega) with h2 | h2
            · have : (p : Int) * 1 ≤ p * k := Int.mul_le_mul_of_nonneg_left (by omega) (by omega)
              omega
            · have : k = 0 := by omega
              subst this; simp at hk; omega
        · exact h1)
      simp; omega

def powPoly (d : Nat) : List Int := -1 :: (List.replicate (d - 1) 0 ++ [1])

theorem ev_zeros (x : Int) (f : List Int) : ∀ k, ev (List.replicate k 0 ++ f) x = x ^ k * ev f x
  | 0 => by simp
  | k + 1 => by
    rw [List.replicate_succ, List.cons_append]
    show 0 + x * ev (List.replicate k 0 ++ f) x = _
    rw [ev_zeros x f k, Int.pow_succ]
    grind

theorem ev_powPoly (d : Nat) (hd : 1 ≤ d) (x : Int) : ev (powPoly d) x = x ^ d - 1 := by
  show -1 + x * ev (List.replicate (d - 1) 0 ++ [1]) x = _
  rw [ev_zeros]
  have : ev [1] x = 1 := by simp [ev]
  rw [this]
  obtain ⟨k, rfl⟩ : ∃ k, d = k + 1 := ⟨d - 1, by omega⟩
  rw [Nat.add_sub_cancel, Int.pow_succ]
  grind

/-- At most d numbers below a prime have 1 as their power with the exponent d. -/
theorem roots_of_one {p d : Nat} (h : Pr p) (hd : 1 ≤ d) (R : List Nat) (hR : R.Nodup) (hx : ∀ x ∈ R, x < p ∧ x ^ d % p = 1) : R.length ≤ d := by
  have h2 := h.1
  refine roots_le h d (powPoly d) R (by simp [powPoly]; omega) ?_ hR ?_
  · intro c hc
    have : (powPoly d).getLast? = some 1 := by
      show (-1 :: (List.replicate (d - 1) 0 ++ [(1 : Int)])).getLast? = _
      rw [← List.cons_append, List.getLast?_concat]
    rw [this] at hc
    simp at hc
    subst hc
    intro hdv
    have := Int.le_of_dvd (by omega) hdv
    omega
  · intro x hxR
    obtain ⟨h3, h4⟩ := hx x hxR
    refine ⟨h3, ?_⟩
    rw [ev_powPoly d hd]
    have e : ((x ^ d : Nat) : Int) = (x : Int) ^ d := by simp
    rw [← e]
    have h5 := Nat.div_add_mod (x ^ d) p
    rw [h4] at h5
    have h6 : ((p * (x ^ d / p) + 1 : Nat) : Int) = ((x ^ d : Nat) : Int) := by rw [h5]
    rw [Int.natCast_add, Int.natCast_mul] at h6
    exact ⟨((x ^ d / p : Nat) : Int), by rw [← h6]; omega⟩

/-- Some remainder has a power other than 1, where the exponent is less than p - 1. -/
theorem exists_other {p d : Nat} (h : Pr p) (hd : 1 ≤ d) (hlt : d < p - 1) : ∃ x, 1 ≤ x ∧ x < p ∧ x ^ d % p ≠ 1 := by
  refine Classical.byContradiction fun hno => ?_
  have hall : ∀ x, 1 ≤ x → x < p → x ^ d % p = 1 := fun x h1 h2 => Classical.byContradiction fun h3 => hno ⟨x, h1, h2, h3⟩
  have := roots_of_one h hd (List.range' 1 (p - 1)) (List.nodup_range' ..) (fun x hx => by
    rw [List.mem_range'_1] at hx
    exact ⟨by omega, hall x (by omega) (by omega)⟩)
  simp at this
  omega

end Go.Proofs.YtbehihanhfmmhaaGreat.M

namespace Go.Proofs.YtbehihanhfmmhaaGreat.M

def prodP : List (Nat × Nat) → Nat
  | [] => 1
  | x :: l => x.1 ^ x.2 * prodP l

/-- Primes in ascending order, all greater than lo, with exponents from 1 on. -/
def FacFrom : Nat → List (Nat × Nat) → Prop
  | _, [] => True
  | lo, x :: l => lo < x.1 ∧ Pr x.1 ∧ 1 ≤ x.2 ∧ FacFrom x.1 l

def IsFac (n : Nat) (l : List (Nat × Nat)) : Prop := FacFrom 1 l ∧ prodP l = n

theorem prodP_append (l l' : List (Nat × Nat)) : prodP (l ++ l') = prodP l * prodP l' := by
  induction l with
  | nil => simp [prodP]
  | cons x l ih => simp [prodP, ih, Nat.mul_assoc]

theorem FacFrom.pos {lo : Nat} {l : List (Nat × Nat)} (h : FacFrom lo l) : 1 ≤ prodP l := by
  induction l generalizing lo with
  | nil => simp [prodP]
  | cons x l ih =>
    have h2 := h.2.1.1
    exact Nat.mul_pos (Nat.pow_pos (by omega)) (ih h.2.2.2)

theorem FacFrom.mono {lo lo' : Nat} {l : List (Nat × Nat)} (h : FacFrom lo l) (hl : lo' ≤ lo) : FacFrom lo' l := by
  cases l with
  | nil => trivial
  | cons x l => exact ⟨by have := h.1; omega, h.2⟩

theorem FacFrom.gt {lo : Nat} {l : List (Nat × Nat)} (h : FacFrom lo l) : ∀ x ∈ l, lo < x.1 ∧ Pr x.1 ∧ 1 ≤ x.2 := by
  induction l generalizing lo with
  | nil => intro x hx; cases hx
  | cons y l ih =>
    intro x hx
    rcases List.mem_cons.1 hx with rfl | hx
    · exact ⟨h.1, h.2.1, h.2.2.1⟩
    · have := ih h.2.2.2 x hx
      exact ⟨by have := h.1; omega, this.2⟩

theorem FacFrom.drop {lo : Nat} {l : List (Nat × Nat)} (h : FacFrom lo l) (k : Nat) : FacFrom lo (l.drop k) := by
  induction k generalizing lo l with
  | zero => exact h
  | succ k ih =>
    cases l with
    | nil => trivial
    | cons x l => exact (ih (h.2.2.2)).mono (by have := h.1; omega)

theorem FacFrom.mem_of_dvd {lo q : Nat} {l : List (Nat × Nat)} (h : FacFrom lo l) (hq : Pr q) (hd : q ∣ prodP l) : ∃ x ∈ l, x.1 = q := by
  induction l generalizing lo with
  | nil => rw [prodP] at hd; have := Nat.le_of_dvd (by omega) hd; have := hq.1; omega
  | cons x l ih =>
    rcases hq.dvd_mul hd with h1 | h1
    · have h2 := hq.dvd_pow h1
      rcases h.2.1.2 q h2 with h3 | h3
      · have := hq.1; omega
      · exact ⟨x, by simp, h3.symm⟩
    · obtain ⟨y, hy, he⟩ := ih h.2.2.2 h1
      exact ⟨y, by simp [hy], he⟩

theorem dvd_prodP {l : List (Nat × Nat)} {x : Nat × Nat} (hx : x ∈ l) (he : 1 ≤ x.2) : x.1 ∣ prodP l := by
  induction l with
  | nil => cases hx
  | cons y l ih =>
    rcases List.mem_cons.1 hx with rfl | hx
    · exact Nat.dvd_trans (Nat.dvd_trans (by rw [Nat.pow_one]; exact Nat.dvd_refl _) (Nat.pow_dvd_pow x.1 he)) (Nat.dvd_mul_right _ _)
    · exact Nat.dvd_trans (ih hx) (Nat.dvd_mul_left _ _)

theorem FacFrom.not_dvd {p : Nat} {l : List (Nat × Nat)} (hp : Pr p) (h : FacFrom p l) : ¬ p ∣ prodP l := by
  intro hd
  obtain ⟨x, hx, he⟩ := h.mem_of_dvd hp hd
  have := (h.gt x hx).1
  omega

/-- Every divisor from 2 on is greater than lo. -/
theorem FacFrom.lt_div {lo k : Nat} {l : List (Nat × Nat)} (h : FacFrom lo l) (hk : 2 ≤ k) (hd : k ∣ prodP l) : lo < k := by
  obtain ⟨q, hq, hqk⟩ := exists_prime k hk
  obtain ⟨x, hx, he⟩ := h.mem_of_dvd hq (Nat.dvd_trans hqk hd)
  have := (h.gt x hx).1
  have := Nat.le_of_dvd (by omega) hqk
  omega

/-- The first prime is the least divisor from 2 on. -/
theorem FacFrom.head_le {lo k : Nat} {x : Nat × Nat} {l : List (Nat × Nat)} (h : FacFrom lo (x :: l)) (hk : 2 ≤ k) (hd : k ∣ prodP (x :: l)) : x.1 ≤ k := by
  have h2 := h.2.1.1
  have h' : FacFrom (x.1 - 1) (x :: l) := ⟨by omega, h.2⟩
  have := h'.lt_div hk hd
  omega

theorem strip (d n : Nat) (hd : 2 ≤ d) (hn : 1 ≤ n) : ∃ e r, n = d ^ e * r ∧ ¬ d ∣ r ∧ 1 ≤ r := by
  induction n using Nat.strongRecOn with
  | ind n ih =>
    by_cases h : d ∣ n
    · obtain ⟨c, hc⟩ := h
      have hc0 : 1 ≤ c := by apply Nat.pos_of_ne_zero; intro e; subst e; omega
      have hlt : c < n := by rw [hc]; have := Nat.mul_le_mul_right c hd; omega
      obtain ⟨e, r, h1, h2, h3⟩ := ih c hlt hc0
      exact ⟨e + 1, r, by rw [hc, h1, Nat.pow_succ]; ac_rfl, h2, h3⟩
    · exact ⟨0, n, by simp, h, hn⟩

theorem strip_unique {d e e' r r' : Nat} (hd : 2 ≤ d) (h : d ^ e * r = d ^ e' * r') (h1 : ¬ d ∣ r) (h2 : ¬ d ∣ r') : e = e' ∧ r = r' := by
  induction e generalizing e' with
  | zero =>
    cases e' with
    | zero => simpa using h
    | succ e' => exfalso; apply h1; simp at h; rw [h, Nat.pow_succ]; exact ⟨d ^ e' * r', by ac_rfl⟩
  | succ e ih =>
    cases e' with
    | zero => exfalso; apply h2; simp at h; rw [← h, Nat.pow_succ]; exact ⟨d ^ e * r, by ac_rfl⟩
    | succ e' =>
      have : d ^ e * r = d ^ e' * r' := by
        rw [Nat.pow_succ, Nat.pow_succ] at h
        apply Nat.eq_of_mul_eq_mul_left (show 0 < d by omega)
        calc d * (d ^ e * r) = d ^ e * d * r := by ac_rfl
          _ = d ^ e' * d * r' := h
          _ = d * (d ^ e' * r') := by ac_rfl
      have := ih this
      exact ⟨by omega, this.2⟩

theorem exists_facFrom (n : Nat) : ∀ lo, 1 ≤ n → (∀ k, 2 ≤ k → k ∣ n → lo < k) → ∃ l, FacFrom lo l ∧ prodP l = n := by
  induction n using Nat.strongRecOn with
  | ind n ih =>
    intro lo hn hlo
    by_cases h1 : n = 1
    · exact ⟨[], trivial, by simp [prodP, h1]⟩
    · obtain ⟨d, hd2, hdn, hmin⟩ := exists_least n (by omega)
      have hp := least_prime hd2 hdn hmin
      obtain ⟨e, r, hnr, hdr, hr⟩ := strip d n hd2 hn
      have he : 1 ≤ e := by
        apply Nat.pos_of_ne_zero; intro e0; subst e0
        simp at hnr; exact hdr (hnr ▸ hdn)
      have hlt : r < n := by
        have : 2 ≤ d ^ e := by
          have := Nat.pow_le_pow_right (show 0 < d by omega) he
          simp at this; omega
        have := Nat.mul_le_mul_right r this
        omega
      obtain ⟨l, hl, hpl⟩ := ih r hlt d hr (fun k hk hkr => by
        have hkn : k ∣ n := by rw [hnr]; exact Nat.dvd_trans hkr (Nat.dvd_mul_left _ _)
        have := hmin k hk hkn
        have : k ≠ d := fun e => hdr (e ▸ hkr)
        omega)
      exact ⟨(d, e) :: l, ⟨hlo d hd2 hdn, hp, he, hl⟩, by simp [prodP, hpl, hnr]⟩

theorem exists_fac (n : Nat) (hn : 1 ≤ n) : ∃ l, IsFac n l := by
  obtain ⟨l, h1, h2⟩ := exists_facFrom n 1 hn (fun k hk _ => by omega)
  exact ⟨l, h1, h2⟩

theorem fac_unique' : ∀ (l l' : List (Nat × Nat)) (lo lo' : Nat), FacFrom lo l → FacFrom lo' l' → prodP l = prodP l' → l = l'
  | [], [], _, _, _, _, _ => rfl
  | [], x :: l', _, _, _, h', he => by
    exfalso
    have h2 := h'.2.1.1
    have hd : x.1 ∣ prodP (x :: l') := dvd_prodP (by simp) h'.2.2.1
    rw [← he] at hd
    have := Nat.le_of_dvd (by simp [prodP]) hd
    simp [prodP] at hd
    omega
  | x :: l, [], _, _, h, _, he => by
    exfalso
    have h2 := h.2.1.1
    have hd : x.1 ∣ prodP (x :: l) := dvd_prodP (by simp) h.2.2.1
    rw [he] at hd
    simp [prodP] at hd
    omega
  | x :: l, y :: l', lo, lo', h, h', he => by
    have hx : x.1 ∣ prodP (y :: l') := he ▸ dvd_prodP (by simp) h.2.2.1
    have hy : y.1 ∣ prodP (x :: l) := he ▸ dvd_prodP (by simp) h'.2.2.1
    have h1 := h'.head_le h.2.1.1 hx
    have h2 := h.head_le h'.2.1.1 hy
    have h3 : x.1 = y.1 := by omega
    have hu := strip_unique (d := x.1) (e := x.2) (e' := y.2) (r := prodP l) (r' := prodP l') h.2.1.1 (by rw [show x.1 ^ y.2 = y.1 ^ y.2 by rw [h3]]; exact he) (h.2.2.2.not_dvd h.2.1) (by rw [h3]; exact h'.2.2.2.not_dvd h'.2.1)
    have := fac_unique' l l' _ _ h.2.2.2 h'.2.2.2 hu.2
    rw [this, show x = y from Prod.ext h3 hu.1]

theorem IsFac.unique {n : Nat} {l l' : List (Nat × Nat)} (h : IsFac n l) (h' : IsFac n l') : l = l' :=
  fac_unique' l l' 1 1 h.1 h'.1 (h.2.trans h'.2.symm)

/-! ### Every prime has a generator -/
theorem mod_of_one_lt {p : Nat} (h : 2 ≤ p) : 1 % p = 1 := Nat.mod_eq_of_lt (by omega)

theorem pow_zmod (x a b p : Nat) : (x ^ a % p) ^ b % p = x ^ (a * b) % p := by rw [← Nat.pow_mod, Nat.pow_mul]

theorem pow_zmod' (a p : Nat) {n : Nat} : (a * a % p) ^ n % p = (a ^ 2) ^ n % p := by rw [← Nat.pow_mod, Nat.pow_two]

theorem prime_part {p q : Nat} (hp : Pr p) (hq : Pr q) (hqd : q ∣ p - 1) :
    ∃ y, y ^ (p - 1) % p = 1 ∧ y ^ ((p - 1) / q) % p ≠ 1 ∧ ∀ q', Pr q' → q' ∣ p - 1 → q' ≠ q → y ^ ((p - 1) / q') % p = 1 := by
  have hp2 := hp.1
  have hq2 := hq.1
  have hpos : 0 < p - 1 := by omega
  have h1p := mod_of_one_lt hp2
  have hdq : 1 ≤ (p - 1) / q := Nat.div_pos (Nat.le_of_dvd hpos hqd) (by omega)
  obtain ⟨x, hx1, hx2, hx3⟩ := exists_other hp hdq (Nat.div_lt_self hpos (by omega))
  have hf := fermat hp (not_dvd_of_lt hx1 hx2)
  obtain ⟨k, u, hku, hqu, hu⟩ := strip q (p - 1) hq2 (by omega)
  refine ⟨x ^ u, ?_, ?_, ?_⟩
  · rw [← Nat.pow_mul, Nat.mul_comm, pow_one_mul (by rw [h1p]; exact hf), h1p]
  · intro h
    rw [← Nat.pow_mul, Nat.mul_comm, Nat.pow_mul] at h
    have hz : (x ^ ((p - 1) / q)) ^ q % p = 1 := by
      rw [← Nat.pow_mul, Nat.div_mul_cancel hqd]; exact hf
    obtain ⟨o, ho⟩ := exists_ord hu (by rw [h1p]; exact h)
    have h1 := ho.dvd (n := u) (by rw [h1p]; exact h)
    have h2 := ho.dvd (n := q) (by rw [h1p]; exact hz)
    have h3 := Nat.dvd_gcd h2 h1
    rw [hq.cop hqu] at h3
    have h4 := Nat.dvd_one.1 h3
    subst h4
    have := ho.one
    rw [Nat.pow_one, h1p] at this
    exact hx3 this
  · intro q' hq' hd' hne
    have hq2' := hq'.1
    have h1 : q ^ k ∣ (p - 1) / q' := by
      have hc : Nat.Coprime (q ^ k) q' := by
        have : Nat.Coprime q q' := hq.cop fun hd => by
          rcases hq'.2 q hd with h | h <;> omega
        simpa using Nat.Coprime.pow_left k this
      refine hc.dvd_of_dvd_mul_left (m := q') (n := (p - 1) / q') ?_
      rw [Nat.mul_div_cancel' hd', hku]
      exact Nat.dvd_mul_right _ _
    obtain ⟨c, hc⟩ := h1
    rw [hc, ← Nat.pow_mul, show u * (q ^ k * c) = (q ^ k * u) * c by ac_rfl, ← hku]
    have := pow_one_mul (n := p - 1) (a := x) (m := p) (by rw [h1p]; exact hf) c
    rw [this, h1p]

theorem gen_parts {p : Nat} (hp : Pr p) : ∀ qs : List Nat, qs.Nodup → (∀ q ∈ qs, Pr q ∧ q ∣ p - 1) →
    ∃ g, g ^ (p - 1) % p = 1 ∧ (∀ q ∈ qs, g ^ ((p - 1) / q) % p ≠ 1) ∧ ∀ q, Pr q → q ∣ p - 1 → q ∉ qs → g ^ ((p - 1) / q) % p = 1
  | [], _, _ => ⟨1, by rw [Nat.one_pow]; exact mod_of_one_lt hp.1, by simp, fun q _ _ _ => by rw [Nat.one_pow]; exact mod_of_one_lt hp.1⟩
  | q :: qs, hn, hq => by
    have h1p := mod_of_one_lt hp.1
    obtain ⟨g, hg0, hg1, hg2⟩ := gen_parts hp qs (List.nodup_cons.1 hn).2 (fun x hx => hq x (by simp [hx]))
    obtain ⟨hqp, hqd⟩ := hq q (by simp)
    obtain ⟨y, hy0, hy1, hy2⟩ := prime_part hp hqp hqd
    have mulmod : ∀ n, (y * g) ^ n % p = (y ^ n % p) * (g ^ n % p) % p := fun n => by rw [Nat.mul_pow, Nat.mul_mod]
    refine ⟨y * g, by rw [mulmod, hy0, hg0, Nat.one_mul, h1p], ?_, ?_⟩
    · intro x hx
      rw [mulmod]
      rcases List.mem_cons.1 hx with rfl | hx
      · rw [hg2 x hqp hqd (List.nodup_cons.1 hn).1, Nat.mul_one, Nat.mod_mod]
        exact hy1
      · obtain ⟨hxp, hxd⟩ := hq x (by simp [hx])
        rw [hy2 x hxp hxd (fun e => (List.nodup_cons.1 hn).1 (e ▸ hx)), Nat.one_mul, Nat.mod_mod]
        exact hg1 x hx
    · intro x hxp hxd hx
      rw [mulmod, hy2 x hxp hxd (fun e => hx (by simp [e])), hg2 x hxp hxd (fun e => hx (by simp [e])), Nat.one_mul, h1p]

/-- Every prime has a generator. -/
theorem exists_gen {p : Nat} (hp : Pr p) : ∃ g, 1 ≤ g ∧ g < p ∧ ∀ q, Pr q → q ∣ p - 1 → g ^ ((p - 1) / q) % p ≠ 1 := by
  have hp2 := hp.1
  by_cases h2 : p = 2
  · subst h2
    exact ⟨1, by omega, by omega, fun q hq hd => by have := Nat.le_of_dvd (by omega) hd; have := hq.1; omega⟩
  obtain ⟨l, hl⟩ := exists_fac (p - 1) (by omega)
  have hnd : (l.map (·.1)).Nodup := by
    have : ∀ (l : List (Nat × Nat)) lo, FacFrom lo l → (l.map (·.1)).Nodup := by
      intro l
      induction l with
      | nil => intro lo _; simp
      | cons x l ih =>
        intro lo h
        rw [List.map_cons, List.nodup_cons]
        refine ⟨fun hm => ?_, ih _ h.2.2.2⟩
        obtain ⟨y, hy, he⟩ := List.mem_map.1 hm
        have := (h.2.2.2.gt y hy).1
        omega
    exact this l 1 hl.1
  obtain ⟨g, hgp, hg, _⟩ := gen_parts hp (l.map (·.1)) hnd (fun q hq => by
    obtain ⟨x, hx, rfl⟩ := List.mem_map.1 hq
    have := hl.1.gt x hx
    exact ⟨this.2.1, hl.2 ▸ dvd_prodP hx this.2.2⟩)
  have hall : ∀ q, Pr q → q ∣ p - 1 → g ^ ((p - 1) / q) % p ≠ 1 := fun q hq hd => by
    obtain ⟨x, hx, he⟩ := hl.1.mem_of_dvd hq (by rw [hl.2]; exact hd)
    exact hg q (List.mem_map.2 ⟨x, hx, he⟩)
  have hg0 : g % p ≠ 0 := by
    intro h0
    rw [Nat.pow_mod, h0, Nat.zero_pow (by omega)] at hgp
    simp at hgp
  refine ⟨g % p, by omega, Nat.mod_lt _ (by omega), fun q hq hd => ?_⟩
  rw [← Nat.pow_mod]
  exact hall q hq hd

end Go.Proofs.YtbehihanhfmmhaaGreat.M

namespace Go.Proofs.YtbehihanhfmmhaaGreat.M

theorem binom (y : Nat) : ∀ n : Nat, ∃ c, (1 + y) ^ n = 1 + n * y + y * y * c
  | 0 => ⟨0, by simp⟩
  | n + 1 => by
    obtain ⟨c, hc⟩ := binom y n
    exact ⟨n + c + y * c, by rw [Nat.pow_succ, hc]; grind⟩

theorem mod_one_iff {x m : Nat} (hx : 1 ≤ x) : x % m = 1 % m ↔ m ∣ x - 1 := by
  constructor
  · intro h
    exact Nat.dvd_of_mod_eq_zero (Nat.sub_mod_eq_zero_of_mod_eq h)
  · rintro ⟨c, hc⟩
    rw [show x = 1 + m * c by omega, Nat.add_mul_mod_self_left]

theorem lift_one {x q j : Nat} (hx : 1 ≤ x) (hj : 1 ≤ j) (h : x % q ^ j = 1 % q ^ j) : x ^ q % q ^ (j + 1) = 1 % q ^ (j + 1) := by
  obtain ⟨t, ht⟩ := (mod_one_iff hx).1 h
  rw [mod_one_iff (Nat.pow_pos (by omega))]
  obtain ⟨c, hc⟩ := binom (x - 1) q
  rw [show 1 + (x - 1) = x by omega] at hc
  rw [hc]
  obtain ⟨i, rfl⟩ : ∃ i, j = i + 1 := ⟨j - 1, by omega⟩
  refine ⟨t + q ^ i * t * t * c, ?_⟩
  rw [ht, Nat.pow_succ, Nat.pow_succ]
  have : 1 + q * (q ^ i * q * t) + q ^ i * q * t * (q ^ i * q * t) * c - 1 = q * (q ^ i * q * t) + q ^ i * q * t * (q ^ i * q * t) * c := by omega
  rw [this]
  grind

theorem euler_pow {a q : Nat} (hq : Pr q) (ha : ¬ q ∣ a) : ∀ j, a ^ (q ^ j * (q - 1)) % q ^ (j + 1) = 1 % q ^ (j + 1)
  | 0 => by
    rw [Nat.pow_zero, Nat.one_mul, Nat.pow_one, fermat hq ha, mod_of_one_lt hq.1]
  | j + 1 => by
    have ih := euler_pow hq ha j
    have ha0 : 1 ≤ a := by apply Nat.pos_of_ne_zero; intro e; subst e; exact ha (Nat.dvd_zero q)
    have := lift_one (Nat.pow_pos ha0) (by omega) ih
    rw [← Nat.pow_mul] at this
    rw [Nat.pow_succ, show q ^ j * q * (q - 1) = q ^ j * (q - 1) * q by ac_rfl]
    exact this

def phiP : List (Nat × Nat) → Nat
  | [] => 1
  | x :: l => x.1 ^ (x.2 - 1) * (x.1 - 1) * phiP l

theorem FacFrom.phi_pos {lo : Nat} {l : List (Nat × Nat)} (h : FacFrom lo l) : 1 ≤ phiP l := by
  induction l generalizing lo with
  | nil => simp [phiP]
  | cons x l ih =>
    have h2 := h.2.1.1
    exact Nat.mul_pos (Nat.mul_pos (Nat.pow_pos (by omega)) (by omega)) (ih h.2.2.2)

theorem FacFrom.take {lo : Nat} {l : List (Nat × Nat)} (h : FacFrom lo l) (k : Nat) : FacFrom lo (l.take k) := by
  induction l generalizing lo k with
  | nil => simp; trivial
  | cons x l ih =>
    cases k with
    | zero => trivial
    | succ k => exact ⟨h.1, h.2.1, h.2.2.1, ih h.2.2.2 k⟩

theorem FacFrom.phi_le {lo : Nat} {l : List (Nat × Nat)} (h : FacFrom lo l) : phiP l ≤ prodP l := by
  induction l generalizing lo with
  | nil => simp [phiP, prodP]
  | cons x l ih =>
    have h2 := h.2.1.1
    have h3 := h.2.2.1
    refine Nat.mul_le_mul ?_ (ih h.2.2.2)
    obtain ⟨k, hk⟩ : ∃ k, x.2 = k + 1 := ⟨x.2 - 1, by omega⟩
    rw [hk, Nat.add_sub_cancel, Nat.pow_succ]
    exact Nat.mul_le_mul_left _ (by omega)

theorem FacFrom.euler {lo a : Nat} {l : List (Nat × Nat)} (h : FacFrom lo l) (ha : Nat.Coprime a (prodP l)) : a ^ phiP l % prodP l = 1 % prodP l := by
  induction l generalizing lo with
  | nil => simp [prodP, Nat.mod_one]
  | cons x l ih =>
    have hx2 := h.2.1.1
    have hxe := h.2.2.1
    by_cases hl1 : prodP (x :: l) = 1
    · rw [hl1, Nat.mod_one, Nat.mod_one]
    have ha0 : 1 ≤ a := by
      apply Nat.pos_of_ne_zero; intro e; subst e
      rw [Nat.coprime_zero_left] at ha; exact hl1 ha
    have hdx : x.1 ∣ prodP (x :: l) := dvd_prodP (by simp) hxe
    have hnx : ¬ x.1 ∣ a := fun hd => by
      have := Nat.dvd_gcd hd hdx
      rw [ha] at this
      have := Nat.le_of_dvd (by omega) this
      omega
    have hcl : Nat.Coprime a (prodP l) := Nat.Coprime.coprime_dvd_right (Nat.dvd_mul_left _ _) ha
    have h1 := euler_pow h.2.1 hnx (x.2 - 1)
    rw [show x.2 - 1 + 1 = x.2 by omega] at h1
    have h2 := pow_one_mul h1 (phiP l)
    have h3 := pow_one_mul (ih h.2.2.2 hcl) (x.1 ^ (x.2 - 1) * (x.1 - 1))
    rw [Nat.mul_comm] at h3
    have hp : 1 ≤ a ^ (x.1 ^ (x.2 - 1) * (x.1 - 1) * phiP l) := Nat.pow_pos ha0
    rw [mod_one_iff hp] at h2 h3
    show a ^ (x.1 ^ (x.2 - 1) * (x.1 - 1) * phiP l) % (x.1 ^ x.2 * prodP l) = 1 % (x.1 ^ x.2 * prodP l)
    rw [mod_one_iff hp]
    have hc : Nat.Coprime (x.1 ^ x.2) (prodP l) := by
      simpa using Nat.Coprime.pow_left x.2 (h.2.1.cop (h.2.2.2.not_dvd h.2.1))
    exact hc.mul_dvd_of_dvd_of_dvd h2 h3

/-! ### Roots -/
theorem sq_one {p z : Nat} (hp : Pr p) (h : z * z % p = 1) (h1 : z % p ≠ 1) : z % p = p - 1 := by
  have hp2 := hp.1
  have hz0 : 1 ≤ z := by apply Nat.pos_of_ne_zero; intro e; subst e; simp at h
  have hzz : 1 ≤ z * z := Nat.mul_pos hz0 hz0
  have hd : p ∣ z * z - 1 := (mod_one_iff hzz).1 (by rw [h, mod_of_one_lt hp2])
  have he : z * z - 1 = (z - 1) * (z + 1) := by
    obtain ⟨k, rfl⟩ : ∃ k, z = k + 1 := ⟨z - 1, by omega⟩
    have : (k + 1) * (k + 1) = k * k + 2 * k + 1 := by grind
    have h4 : k * (k + 1 + 1) = k * k + 2 * k := by grind
    rw [this, Nat.add_sub_cancel, Nat.add_sub_cancel, h4]
  rw [he] at hd
  rcases hp.dvd_mul hd with h2 | h2
  · exact absurd (by rw [(mod_one_iff hz0).2 h2, mod_of_one_lt hp2]) h1
  · obtain ⟨c, hc⟩ := h2
    have hc0 : 1 ≤ c := by apply Nat.pos_of_ne_zero; intro e; subst e; omega
    obtain ⟨k, rfl⟩ : ∃ k, c = k + 1 := ⟨c - 1, by omega⟩
    have : z = (p - 1) + p * k := by rw [Nat.mul_succ] at hc; omega
    rw [this, Nat.add_mul_mod_self_left, Nat.mod_eq_of_lt (by omega)]

theorem neg_sq {p x y : Nat} (hp : 2 ≤ p) (hx : x % p = p - 1) (hy : y % p = p - 1) : x * y % p = 1 := by
  rw [Nat.mul_mod, hx, hy]
  obtain ⟨k, rfl⟩ : ∃ k, p = k + 2 := ⟨p - 2, by omega⟩
  rw [show k + 2 - 1 = k + 1 by omega, show (k + 1) * (k + 1) = 1 + (k + 2) * k by grind, Nat.add_mul_mod_self_left, mod_of_one_lt (by omega)]

/-- A remainder that is no square: its power with half the exponent is -1. -/
theorem exists_nonsquare {p : Nat} (hp : Pr p) (h3 : 3 ≤ p) : ∃ c, 2 ≤ c ∧ c < p ∧ c ^ ((p - 1) / 2) % p ≠ 1 := by
  obtain ⟨x, h1, h2, hx⟩ := exists_other hp (d := (p - 1) / 2) (by omega) (by omega)
  refine ⟨x, ?_, h2, hx⟩
  by_cases e : x = 1
  · subst e; rw [Nat.one_pow, mod_of_one_lt (by omega)] at hx; exact absurd rfl hx
  · omega

theorem odd_prime {p : Nat} (hp : Pr p) (h3 : 3 ≤ p) : p % 2 = 1 := by
  by_cases h : p % 2 = 0
  · rcases hp.2 2 (Nat.dvd_of_mod_eq_zero h) with h1 | h1 <;> omega
  · omega

theorem half_neg {p c : Nat} (hp : Pr p) (h3 : 3 ≤ p) (h1 : 1 ≤ c) (h2 : c < p) (hc : c ^ ((p - 1) / 2) % p ≠ 1) : c ^ ((p - 1) / 2) % p = p - 1 := by
  refine sq_one hp ?_ hc
  have ho := odd_prime hp h3
  rw [← Nat.pow_add, show (p - 1) / 2 + (p - 1) / 2 = p - 1 by omega]
  exact fermat hp (not_dvd_of_lt h1 h2)

/-- What a round of the way of Tonelli and Shanks keeps. -/
structure Ton (a p tw root turn ex : Nat) : Prop where
  tw1 : 1 ≤ tw
  sq : root * root % p = a * ex % p
  turn_neg : turn ^ 2 ^ (tw - 1) % p = p - 1
  ex_one : ex ^ 2 ^ (tw - 1) % p = 1
  root_lt : root < p
  turn_lt : turn < p
  ex_lt : ex < p
  ex_pos : 1 ≤ ex

/-- The count of squarings. -/
structure IsSq (x p h : Nat) : Prop where
  one : x ^ 2 ^ h % p = 1
  least : ∀ k, k < h → x ^ 2 ^ k % p ≠ 1

theorem exists_sq {x p n : Nat} (h : x ^ 2 ^ n % p = 1) : ∃ k, k ≤ n ∧ IsSq x p k := by
  induction n with
  | zero => exact ⟨0, Nat.le_refl _, h, fun k hk => by omega⟩
  | succ n ih =>
    by_cases h1 : ∃ k, k ≤ n ∧ x ^ 2 ^ k % p = 1
    · obtain ⟨k, hk, hk1⟩ := h1
      suffices H : ∀ b k, k ≤ b → x ^ 2 ^ k % p = 1 → ∃ k', k' ≤ k ∧ IsSq x p k' by
        obtain ⟨k', h2, h3⟩ := H k k (Nat.le_refl _) hk1
        exact ⟨k', by omega, h3⟩
      intro b
      induction b with
      | zero => intro k hk hx; exact ⟨k, Nat.le_refl _, hx, fun j hj => by omega⟩
      | succ b ihb =>
        intro k hk hx
        by_cases h4 : ∃ j, j < k ∧ x ^ 2 ^ j % p = 1
        · obtain ⟨j, hj, hj1⟩ := h4
          obtain ⟨k', h5, h6⟩ := ihb j (by omega) hj1
          exact ⟨k', by omega, h6⟩
        · exact ⟨k, Nat.le_refl _, hx, fun j hj hj1 => h4 ⟨j, hj, hj1⟩⟩
    · exact ⟨n + 1, Nat.le_refl _, h, fun k hk hk1 => h1 ⟨k, by omega, hk1⟩⟩

theorem Ton.step {a p tw root turn ex h : Nat} (hp : Pr p) (T : Ton a p tw root turn ex) (hex : ex ≠ 1) (hh : IsSq ex p h) :
    1 ≤ h ∧ h < tw ∧ Ton a p h (root * (turn ^ 2 ^ (tw - h - 1) % p) % p) ((turn ^ 2 ^ (tw - h - 1) % p) * (turn ^ 2 ^ (tw - h - 1) % p) % p)
      (ex * ((turn ^ 2 ^ (tw - h - 1) % p) * (turn ^ 2 ^ (tw - h - 1) % p) % p) % p) := by
  have hp2 := hp.1
  have h1 : 1 ≤ h := by
    apply Nat.pos_of_ne_zero; intro e; subst e
    have := hh.one
    rw [Nat.pow_zero, Nat.pow_one, Nat.mod_eq_of_lt T.ex_lt] at this
    exact hex this
  have h2 : h < tw := by
    refine Classical.byContradiction fun hn => ?_
    have := T.tw1
    exact hh.least (tw - 1) (by omega) T.ex_one
  have ht1 := T.tw1
  have hstep : (turn ^ 2 ^ (tw - h - 1) % p) * (turn ^ 2 ^ (tw - h - 1) % p) % p = turn ^ 2 ^ (tw - h) % p := by
    rw [← Nat.mul_mod, ← Nat.pow_add]
    congr 2
    rw [← Nat.mul_two, ← Nat.pow_succ]; congr 1; omega
  have hnz : ∀ n, turn ^ n % p ≠ 0 := by
    intro n hz
    have h3 := hp.dvd_pow (Nat.dvd_of_mod_eq_zero hz)
    have h4 : turn ^ 2 ^ (tw - 1) % p = 0 := Nat.mod_eq_zero_of_dvd (Nat.dvd_trans h3 (by
      obtain ⟨j, hj⟩ : ∃ j, 2 ^ (tw - 1) = j + 1 := ⟨2 ^ (tw - 1) - 1, by have := Nat.pow_pos (n := tw - 1) (show 0 < 2 by omega); omega⟩
      rw [hj, Nat.pow_succ]; exact Nat.dvd_mul_left _ _))
    have := T.turn_neg
    omega
  have hturn : (turn ^ 2 ^ (tw - h) % p) ^ 2 ^ (h - 1) % p = p - 1 := by
    rw [pow_zmod, ← Nat.pow_add, show tw - h + (h - 1) = tw - 1 by omega]
    exact T.turn_neg
  refine ⟨h1, h2, h1, ?_, ?_, ?_, Nat.mod_lt _ (by omega), Nat.mod_lt _ (by omega), Nat.mod_lt _ (by omega), ?_⟩
  · rw [hstep]
    have hs := hstep
    generalize turn ^ 2 ^ (tw - h - 1) % p = s at *
    rw [← Nat.mul_mod, show root * s * (root * s) = (root * root) * (s * s) by ac_rfl, Nat.mul_mod, T.sq, hs, Nat.mod_mul_mod, Nat.mul_mod_mod, Nat.mul_mod_mod, ← Nat.mul_assoc a ex, Nat.mul_mod_mod]
  · rw [hstep]; exact hturn
  · rw [hstep, ← Nat.pow_mod, Nat.mul_pow]
    refine neg_sq hp2 ?_ hturn
    refine sq_one hp ?_ (hh.least (h - 1) (by omega))
    rw [← Nat.pow_add, ← Nat.mul_two, ← Nat.pow_succ, show (h - 1).succ = h by omega]
    exact hh.one
  · apply Nat.pos_of_ne_zero
    intro e
    rw [hstep] at e
    rcases hp.dvd_mul (Nat.dvd_of_mod_eq_zero e) with h3 | h3
    · have := Nat.le_of_dvd T.ex_pos h3
      have := T.ex_lt
      omega
    · have h4 := Nat.mod_lt (turn ^ 2 ^ (tw - h)) (show 0 < p by omega)
      have := Nat.le_of_dvd (Nat.pos_of_ne_zero (hnz _)) h3
      omega

end Go.Proofs.YtbehihanhfmmhaaGreat.M
