/- Factorizations: there is one, and only one; every prime has a generator; Euler's theorem. Nothing here speaks of the program. -/
import Derived.Test.YtldfbadcigdbkaaOrd
namespace Go.Proofs.Ytldfbadcigdbkaa.M

def prodP : List (Nat × Nat) → Nat
  | [] => 1
  | x :: l => x.1 ^ x.2 * prodP l

/-- Primes in ascending order, all greater than lo, with exponents from 1 on. -/
def FacFrom : Nat → List (Nat × Nat) → Prop
  | _, [] => True
  | lo, x :: l => lo < x.1 ∧ Pr x.1 ∧ 1 ≤ x.2 ∧ FacFrom x.1 l

def IsFac (n : Nat) (l : List (Nat × Nat)) : Prop := FacFrom 1 l ∧ prodP l = n

theorem prodP_append (l l' : List (Nat × Nat)) : prodP (l ++ l') = prodP l * prodP l' := by
  induction l with
  | nil => simp [prodP]
  | cons x l ih => simp [prodP, ih, Nat.mul_assoc]

theorem FacFrom.pos {lo : Nat} {l : List (Nat × Nat)} (h : FacFrom lo l) : 1 ≤ prodP l := by
  induction l generalizing lo with
  | nil => simp [prodP]
  | cons x l ih =>
    have h2 := h.2.1.1
    exact Nat.mul_pos (Nat.pow_pos (by omega)) (ih h.2.2.2)

theorem FacFrom.mono {lo lo' : Nat} {l : List (Nat × Nat)} (h : FacFrom lo l) (hl : lo' ≤ lo) : FacFrom lo' l := by
  cases l with
  | nil => trivial
  | cons x l => exact ⟨by have := h.1; omega, h.2⟩

theorem FacFrom.gt {lo : Nat} {l : List (Nat × Nat)} (h : FacFrom lo l) : ∀ x ∈ l, lo < x.1 ∧ Pr x.1 ∧ 1 ≤ x.2 := by
  induction l generalizing lo with
  | nil => intro x hx; cases hx
  | cons y l ih =>
    intro x hx
    rcases List.mem_cons.1 hx with rfl | hx
    · exact ⟨h.1, h.2.1, h.2.2.1⟩
    · have := ih h.2.2.2 x hx
      exact ⟨by have := h.1; omega, this.2⟩

theorem FacFrom.drop {lo : Nat} {l : List (Nat × Nat)} (h : FacFrom lo l) (k : Nat) : FacFrom lo (l.drop k) := by
  induction k generalizing lo l with
  | zero => exact h
  | succ k ih =>
    cases l with
    | nil => trivial
    | cons x l => exact (ih (h.2.2.2)).mono (by have := h.1; omega)

theorem FacFrom.mem_of_dvd {lo q : Nat} {l : List (Nat × Nat)} (h : FacFrom lo l) (hq : Pr q) (hd : q ∣ prodP l) : ∃ x ∈ l, x.1 = q := by
  induction l generalizing lo with
  | nil => rw [prodP] at hd; have := Nat.le_of_dvd (by omega) hd; have := hq.1; omega
  | cons x l ih =>
    rcases hq.dvd_mul hd with h1 | h1
    · have h2 := hq.dvd_pow h1
      rcases h.2.1.2 q h2 with h3 | h3
      · have := hq.1; omega
      · exact ⟨x, by simp, h3.symm⟩
    · obtain ⟨y, hy, he⟩ := ih h.2.2.2 h1
      exact ⟨y, by simp [hy], he⟩

theorem dvd_prodP {l : List (Nat × Nat)} {x : Nat × Nat} (hx : x ∈ l) (he : 1 ≤ x.2) : x.1 ∣ prodP l := by
  induction l with
  | nil => cases hx
  | cons y l ih =>
    rcases List.mem_cons.1 hx with rfl | hx
    · exact Nat.dvd_trans (Nat.dvd_trans (by rw [Nat.pow_one]; exact Nat.dvd_refl _) (Nat.pow_dvd_pow x.1 he)) (Nat.dvd_mul_right _ _)
    · exact Nat.dvd_trans (ih hx) (Nat.dvd_mul_left _ _)

theorem FacFrom.not_dvd {p : Nat} {l : List (Nat × Nat)} (hp : Pr p) (h : FacFrom p l) : ¬ p ∣ prodP l := by
  intro hd
  obtain ⟨x, hx, he⟩ := h.mem_of_dvd hp hd
  have := (h.gt x hx).1
  omega

/-- Every divisor from 2 on is greater than lo. -/
theorem FacFrom.lt_div {lo k : Nat} {l : List (Nat × Nat)} (h : FacFrom lo l) (hk : 2 ≤ k) (hd : k ∣ prodP l) : lo < k := by
  obtain ⟨q, hq, hqk⟩ := exists_prime k hk
  obtain ⟨x, hx, he⟩ := h.mem_of_dvd hq (Nat.dvd_trans hqk hd)
  have := (h.gt x hx).1
  have := Nat.le_of_dvd (by omega) hqk
  omega

/-- The first prime is the least divisor from 2 on. -/
theorem FacFrom.head_le {lo k : Nat} {x : Nat × Nat} {l : List (Nat × Nat)} (h : FacFrom lo (x :: l)) (hk : 2 ≤ k) (hd : k ∣ prodP (x :: l)) : x.1 ≤ k := by
  have h2 := h.2.1.1
  have h' : FacFrom (x.1 - 1) (x :: l) := ⟨by omega, h.2⟩
  have := h'.lt_div hk hd
  omega

theorem strip (d n : Nat) (hd : 2 ≤ d) (hn : 1 ≤ n) : ∃ e r, n = d ^ e * r ∧ ¬ d ∣ r ∧ 1 ≤ r := by
  induction n using Nat.strongRecOn with
  | ind n ih =>
    by_cases h : d ∣ n
    · obtain ⟨c, hc⟩ := h
      have hc0 : 1 ≤ c := by apply Nat.pos_of_ne_zero; intro e; subst e; omega
      have hlt : c < n := by rw [hc]; have := Nat.mul_le_mul_right c hd; omega
      obtain ⟨e, r, h1, h2, h3⟩ := ih c hlt hc0
      exact ⟨e + 1, r, by rw [hc, h1, Nat.pow_succ]; ac_rfl, h2, h3⟩
    · exact ⟨0, n, by simp, h, hn⟩

theorem strip_unique {d e e' r r' : Nat} (hd : 2 ≤ d) (h : d ^ e * r = d ^ e' * r') (h1 : ¬ d ∣ r) (h2 : ¬ d ∣ r') : e = e' ∧ r = r' := by
  induction e generalizing e' with
  | zero =>
    cases e' with
    | zero => simpa using h
    | succ e' => exfalso; apply h1; simp at h; rw [h, Nat.pow_succ]; exact ⟨d ^ e' * r', by ac_rfl⟩
  | succ e ih =>
    cases e' with
    | zero => exfalso; apply h2; simp at h; rw [← h, Nat.pow_succ]; exact ⟨d ^ e * r, by ac_rfl⟩
    | succ e' =>
      have : d ^ e * r = d ^ e' * r' := by
        rw [Nat.pow_succ, Nat.pow_succ] at h
        apply Nat.eq_of_mul_eq_mul_left (show 0 < d by omega)
        calc d * (d ^ e * r) = d ^ e * d * r := by ac_rfl
          _ = d ^ e' * d * r' := h
          _ = d * (d ^ e' * r') := by ac_rfl
      have := ih this
      exact ⟨by omega, this.2⟩

theorem exists_facFrom (n : Nat) : ∀ lo, 1 ≤ n → (∀ k, 2 ≤ k → k ∣ n → lo < k) → ∃ l, FacFrom lo l ∧ prodP l = n := by
  induction n using Nat.strongRecOn with
  | ind n ih =>
    intro lo hn hlo
    by_cases h1 : n = 1
    · exact ⟨[], trivial, by simp [prodP, h1]⟩
    · obtain ⟨d, hd2, hdn, hmin⟩ := exists_least n (by omega)
      have hp := least_prime hd2 hdn hmin
      obtain ⟨e, r, hnr, hdr, hr⟩ := strip d n hd2 hn
      have he : 1 ≤ e := by
        apply Nat.pos_of_ne_zero; intro e0; subst e0
        simp at hnr; exact hdr (hnr ▸ hdn)
      have hlt : r < n := by
        have : 2 ≤ d ^ e := by
          have := Nat.pow_le_pow_right (show 0 < d by omega) he
          simp at this; omega
        have := Nat.mul_le_mul_right r this
        omega
      obtain ⟨l, hl, hpl⟩ := ih r hlt d hr (fun k hk hkr => by
        have hkn : k ∣ n := by rw [hnr]; exact Nat.dvd_trans hkr (Nat.dvd_mul_left _ _)
        have := hmin k hk hkn
        have : k ≠ d := fun e => hdr (e ▸ hkr)
        omega)
      exact ⟨(d, e) :: l, ⟨hlo d hd2 hdn, hp, he, hl⟩, by simp [prodP, hpl, hnr]⟩

theorem exists_fac (n : Nat) (hn : 1 ≤ n) : ∃ l, IsFac n l := by
  obtain ⟨l, h1, h2⟩ := exists_facFrom n 1 hn (fun k hk _ => by omega)
  exact ⟨l, h1, h2⟩

theorem fac_unique' : ∀ (l l' : List (Nat × Nat)) (lo lo' : Nat), FacFrom lo l → FacFrom lo' l' → prodP l = prodP l' → l = l'
  | [], [], _, _, _, _, _ => rfl
  | [], x :: l', _, _, _, h', he => by
    exfalso
    have h2 := h'.2.1.1
    have hd : x.1 ∣ prodP (x :: l') := dvd_prodP (by simp) h'.2.2.1
    rw [← he] at hd
    have := Nat.le_of_dvd (by simp [prodP]) hd
    simp [prodP] at hd
    omega
  | x :: l, [], _, _, h, _, he => by
    exfalso
    have h2 := h.2.1.1
    have hd : x.1 ∣ prodP (x :: l) := dvd_prodP (by simp) h.2.2.1
    rw [he] at hd
    simp [prodP] at hd
    omega
  | x :: l, y :: l', lo, lo', h, h', he => by
    have hx : x.1 ∣ prodP (y :: l') := he ▸ dvd_prodP (by simp) h.2.2.1
    have hy : y.1 ∣ prodP (x :: l) := he ▸ dvd_prodP (by simp) h'.2.2.1
    have h1 := h'.head_le h.2.1.1 hx
    have h2 := h.head_le h'.2.1.1 hy
    have h3 : x.1 = y.1 := by omega
    have hu := strip_unique (d := x.1) (e := x.2) (e' := y.2) (r := prodP l) (r' := prodP l') h.2.1.1 (by rw [show x.1 ^ y.2 = y.1 ^ y.2 by rw [h3]]; exact he) (h.2.2.2.not_dvd h.2.1) (by rw [h3]; exact h'.2.2.2.not_dvd h'.2.1)
    have := fac_unique' l l' _ _ h.2.2.2 h'.2.2.2 hu.2
    rw [this, show x = y from Prod.ext h3 hu.1]

theorem IsFac.unique {n : Nat} {l l' : List (Nat × Nat)} (h : IsFac n l) (h' : IsFac n l') : l = l' :=
  fac_unique' l l' 1 1 h.1 h'.1 (h.2.trans h'.2.symm)

/-! ### Every prime has a generator -/
theorem mod_of_one_lt {p : Nat} (h : 2 ≤ p) : 1 % p = 1 := Nat.mod_eq_of_lt (by omega)

theorem pow_zmod (x a b p : Nat) : (x ^ a % p) ^ b % p = x ^ (a * b) % p := by rw [← Nat.pow_mod, Nat.pow_mul]

theorem pow_zmod' (a p : Nat) {n : Nat} : (a * a % p) ^ n % p = (a ^ 2) ^ n % p := by rw [← Nat.pow_mod, Nat.pow_two]

theorem prime_part {p q : Nat} (hp : Pr p) (hq : Pr q) (hqd : q ∣ p - 1) :
    ∃ y, y ^ (p - 1) % p = 1 ∧ y ^ ((p - 1) / q) % p ≠ 1 ∧ ∀ q', Pr q' → q' ∣ p - 1 → q' ≠ q → y ^ ((p - 1) / q') % p = 1 := by
  have hp2 := hp.1
  have hq2 := hq.1
  have hpos : 0 < p - 1 := by omega
  have h1p := mod_of_one_lt hp2
  have hdq : 1 ≤ (p - 1) / q := Nat.div_pos (Nat.le_of_dvd hpos hqd) (by omega)
  obtain ⟨x, hx1, hx2, hx3⟩ := exists_other hp hdq (Nat.div_lt_self hpos (by omega))
  have hf := fermat hp (not_dvd_of_lt hx1 hx2)
  obtain ⟨k, u, hku, hqu, hu⟩ := strip q (p - 1) hq2 (by omega)
  refine ⟨x ^ u, ?_, ?_, ?_⟩
  · rw [← Nat.pow_mul, Nat.mul_comm, pow_one_mul (by rw [h1p]; exact hf), h1p]
  · intro h
    rw [← Nat.pow_mul, Nat.mul_comm, Nat.pow_mul] at h
    have hz : (x ^ ((p - 1) / q)) ^ q % p = 1 := by
      rw [← Nat.pow_mul, Nat.div_mul_cancel hqd]; exact hf
    obtain ⟨o, ho⟩ := exists_ord hu (by rw [h1p]; exact h)
    have h1 := ho.dvd (n := u) (by rw [h1p]; exact h)
    have h2 := ho.dvd (n := q) (by rw [h1p]; exact hz)
    have h3 := Nat.dvd_gcd h2 h1
    rw [hq.cop hqu] at h3
    have h4 := Nat.dvd_one.1 h3
    subst h4
    have := ho.one
    rw [Nat.pow_one, h1p] at this
    exact hx3 this
  · intro q' hq' hd' hne
    have hq2' := hq'.1
    have h1 : q ^ k ∣ (p - 1) / q' := by
      have hc : Nat.Coprime (q ^ k) q' := by
        have : Nat.Coprime q q' := hq.cop fun hd => by
          rcases hq'.2 q hd with h | h <;> omega
        simpa using Nat.Coprime.pow_left k this
      refine hc.dvd_of_dvd_mul_left (m := q') (n := (p - 1) / q') ?_
      rw [Nat.mul_div_cancel' hd', hku]
      exact Nat.dvd_mul_right _ _
    obtain ⟨c, hc⟩ := h1
    rw [hc, ← Nat.pow_mul, show u * (q ^ k * c) = (q ^ k * u) * c by ac_rfl, ← hku]
    have := pow_one_mul (n := p - 1) (a := x) (m := p) (by rw [h1p]; exact hf) c
    rw [this, h1p]

theorem gen_parts {p : Nat} (hp : Pr p) : ∀ qs : List Nat, qs.Nodup → (∀ q ∈ qs, Pr q ∧ q ∣ p - 1) →
    ∃ g, g ^ (p - 1) % p = 1 ∧ (∀ q ∈ qs, g ^ ((p - 1) / q) % p ≠ 1) ∧ ∀ q, Pr q → q ∣ p - 1 → q ∉ qs → g ^ ((p - 1) / q) % p = 1
  | [], _, _ => ⟨1, by rw [Nat.one_pow]; exact mod_of_one_lt hp.1, by simp, fun q _ _ _ => by rw [Nat.one_pow]; exact mod_of_one_lt hp.1⟩
  | q :: qs, hn, hq => by
    have h1p := mod_of_one_lt hp.1
    obtain ⟨g, hg0, hg1, hg2⟩ := gen_parts hp qs (List.nodup_cons.1 hn).2 (fun x hx => hq x (by simp [hx]))
    obtain ⟨hqp, hqd⟩ := hq q (by simp)
    obtain ⟨y, hy0, hy1, hy2⟩ := prime_part hp hqp hqd
    have mulmod : ∀ n, (y * g) ^ n % p = (y ^ n % p) * (g ^ n % p) % p := fun n => by rw [Nat.mul_pow, Nat.mul_mod]
    refine ⟨y * g, by rw [mulmod, hy0, hg0, Nat.one_mul, h1p], ?_, ?_⟩
    · intro x hx
      rw [mulmod]
      rcases List.mem_cons.1 hx with rfl | hx
      · rw [hg2 x hqp hqd (List.nodup_cons.1 hn).1, Nat.mul_one, Nat.mod_mod]
        exact hy1
      · obtain ⟨hxp, hxd⟩ := hq x (by simp [hx])
        rw [hy2 x hxp hxd (fun e => (List.nodup_cons.1 hn).1 (e ▸ hx)), Nat.one_mul, Nat.mod_mod]
        exact hg1 x hx
    · intro x hxp hxd hx
      rw [mulmod, hy2 x hxp hxd (fun e => hx (by simp [e])), hg2 x hxp hxd (fun e => hx (by simp [e])), Nat.one_mul, h1p]

/-- Every prime has a generator. -/
theorem exists_gen {p : Nat} (hp : Pr p) : ∃ g, 1 ≤ g ∧ g < p ∧ ∀ q, Pr q → q ∣ p - 1 → g ^ ((p - 1) / q) % p ≠ 1 := by
  have hp2 := hp.1
  by_cases h2 : p = 2
  · subst h2
    exact ⟨1, by omega, by omega, fun q hq hd => by have := Nat.le_of_dvd (by omega) hd; have := hq.1; omega⟩
  obtain ⟨l, hl⟩ := exists_fac (p - 1) (by omega)
  have hnd : (l.map (·.1)).Nodup := by
    have : ∀ (l : List (Nat × Nat)) lo, FacFrom lo l → (l.map (·.1)).Nodup := by
      intro l
      induction l with
      | nil => intro lo _; simp
      | cons x l ih =>
        intro lo h
        rw [List.map_cons, List.nodup_cons]
        refine ⟨fun hm => ?_, ih _ h.2.2.2⟩
        obtain ⟨y, hy, he⟩ := List.mem_map.1 hm
        have := (h.2.2.2.gt y hy).1
        omega
    exact this l 1 hl.1
  obtain ⟨g, hgp, hg, _⟩ := gen_parts hp (l.map (·.1)) hnd (fun q hq => by
    obtain ⟨x, hx, rfl⟩ := List.mem_map.1 hq
    have := hl.1.gt x hx
    exact ⟨this.2.1, hl.2 ▸ dvd_prodP hx this.2.2⟩)
  have hall : ∀ q, Pr q → q ∣ p - 1 → g ^ ((p - 1) / q) % p ≠ 1 := fun q hq hd => by
    obtain ⟨x, hx, he⟩ := hl.1.mem_of_dvd hq (by rw [hl.2]; exact hd)
    exact hg q (List.mem_map.2 ⟨x, hx, he⟩)
  have hg0 : g % p ≠ 0 := by
    intro h0
    rw [Nat.pow_mod, h0, Nat.zero_pow (by omega)] at hgp
    simp at hgp
  refine ⟨g % p, by omega, Nat.mod_lt _ (by omega), fun q hq hd => ?_⟩
  rw [← Nat.pow_mod]
  exact hall q hq hd

end Go.Proofs.Ytldfbadcigdbkaa.M
