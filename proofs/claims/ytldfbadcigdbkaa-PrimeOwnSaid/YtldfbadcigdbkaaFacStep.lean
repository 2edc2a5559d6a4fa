/- What a step of trial division does to a factorization. Nothing here speaks of the program. -/
import Derived.Test.YtldfbadcigdbkaaEul
namespace Go.Proofs.Ytldfbadcigdbkaa.M

theorem FacFrom.two_pow {lo : Nat} {l : List (Nat × Nat)} (h : FacFrom lo l) : 2 ^ l.length ≤ prodP l := by
  induction l generalizing lo with
  | nil => simp [prodP]
  | cons x l ih =>
    have h2 := h.2.1.1
    have h3 : x.1 ^ 1 ≤ x.1 ^ x.2 := Nat.pow_le_pow_right (by omega) h.2.2.1
    rw [Nat.pow_one] at h3
    have h4 := Nat.mul_le_mul (show 2 ≤ x.1 ^ x.2 by omega) (ih h.2.2.2)
    rw [List.length_cons, Nat.pow_succ, Nat.mul_comm]
    exact h4

theorem lt_of_two_pow {e n : Nat} (h : 2 ^ e ≤ n) (hn : n ≤ 2147483647) : e ≤ 30 := by
  refine Classical.byContradiction fun hc => ?_
  have : 2 ^ 31 ≤ 2 ^ e := Nat.pow_le_pow_right (by omega) (by omega)
  omega

theorem FacFrom.length_le {lo : Nat} {l : List (Nat × Nat)} (h : FacFrom lo l) (hn : prodP l ≤ 2147483647) : l.length ≤ 30 := lt_of_two_pow h.two_pow hn

theorem FacFrom.prod_drop_le {lo : Nat} {l : List (Nat × Nat)} (h : FacFrom lo l) (k : Nat) : prodP (l.drop k) ≤ prodP l := by
  have h1 : prodP l = prodP (l.take k) * prodP (l.drop k) := by rw [← prodP_append, List.take_append_drop]
  have h2 : 1 ≤ prodP (l.take k) := by
    apply Nat.pos_of_ne_zero
    intro e
    rw [e] at h1
    have := h.pos
    omega
  rw [h1]
  exact Nat.le_mul_of_pos_left _ h2

/-- What 'take' does: what is known of the exponent, of the rest, of the list behind it. -/
structure Taken (L : List (Nat × Nat)) (k d k' e r : Nat) : Prop where
  le : k' ≤ L.length
  val : prodP (L.drop k) = d ^ e * r ∧ ¬ d ∣ r ∧ 1 ≤ r
  list : (L.take k ++ if e = 0 then [] else [(d, e)]) = L.take k'
  rest : r = prodP (L.drop k')
  fac : FacFrom d (L.drop k')

theorem take_step {L : List (Nat × Nat)} {k d : Nat} (hd : 2 ≤ d) (hk : k ≤ L.length) (h : FacFrom (d - 1) (L.drop k)) : ∃ k' e r, Taken L k d k' e r := by
  by_cases hn : FacFrom d (L.drop k)
  · refine ⟨k, 0, prodP (L.drop k), hk, ⟨by simp, fun hdv => ?_, hn.pos⟩, by simp, rfl, hn⟩
    have := hn.lt_div hd hdv
    omega
  · match hL : L.drop k, h, hn with
    | [], _, hn => exact absurd trivial hn
    | x :: t, h, hn =>
      have hx : x.1 = d := by
        refine Classical.byContradiction fun hc => hn ⟨?_, h.2⟩
        have := h.1
        omega
      have hkl : k < L.length := by
        refine Classical.byContradiction fun hc => ?_
        rw [List.drop_eq_nil_of_le (by omega)] at hL
        cases hL
      have hdk : L.drop (k + 1) = t := by
        rw [← List.drop_drop, hL]; rfl
      have hxk : L[k]? = some x := by
        have h5 : (L.drop k)[0]? = some x := by rw [hL]; rfl
        rw [List.getElem?_drop] at h5
        simpa using h5
      have h3 := h.2.2.1
      subst hx
      refine ⟨k + 1, x.2, prodP t, by omega, ⟨by rw [hL]; rfl, h.2.2.2.not_dvd h.2.1, h.2.2.2.pos⟩, ?_, by rw [hdk], by rw [hdk]; exact h.2.2.2⟩
      rw [if_neg (by omega), List.take_add_one, hxk]
      rfl

theorem FacFrom.next_odd {d : Nat} {l : List (Nat × Nat)} (h : FacFrom d l) (hd : d % 2 = 1) (h3 : 3 ≤ d) : FacFrom (d + 1) l := by
  match l, h with
  | [], _ => trivial
  | x :: l, h =>
    refine ⟨?_, h.2⟩
    have h1 := h.1
    have : x.1 ≠ d + 1 := by
      intro e
      rcases h.2.1.2 2 (Nat.dvd_of_mod_eq_zero (by omega)) with h4 | h4 <;> omega
    omega

/-- Nothing is left, or one prime. -/
theorem FacFrom.last {d : Nat} {l : List (Nat × Nat)} (h : FacFrom (d - 1) l) (hd : 2 ≤ d) (hs : prodP l < d * d) : (l = [] ∧ prodP l = 1) ∨ (l = [(prodP l, 1)] ∧ 2 ≤ prodP l ∧ Pr (prodP l)) := by
  match l, h with
  | [], _ => exact .inl ⟨rfl, rfl⟩
  | x :: l, h =>
    right
    have h1 := h.1
    have h2 := h.2.2.1
    have hpos := h.2.2.2.pos
    have hx2 : x.2 = 1 := by
      refine Classical.byContradiction fun hc => ?_
      have h3 : x.1 ^ 2 ≤ x.1 ^ x.2 := Nat.pow_le_pow_right (by omega) (by omega)
      have h4 : d * d ≤ x.1 ^ 2 := by rw [Nat.pow_two]; exact Nat.mul_le_mul (by omega) (by omega)
      have h5 : x.1 ^ x.2 * 1 ≤ x.1 ^ x.2 * prodP l := Nat.mul_le_mul_left _ hpos
      have h6 : prodP (x :: l) = x.1 ^ x.2 * prodP l := rfl
      omega
    have hl : l = [] := by
      match l, h.2.2.2 with
      | [], _ => rfl
      | y :: l, h' =>
        exfalso
        have h3 := h'.1
        have h4 := h'.2.2.1
        have h5 := h'.2.2.2.pos
        have h6 : y.1 ^ 1 ≤ y.1 ^ y.2 := Nat.pow_le_pow_right (by omega) h4
        rw [Nat.pow_one] at h6
        have h7 : y.1 ^ y.2 * 1 ≤ y.1 ^ y.2 * prodP l := Nat.mul_le_mul_left _ h5
        have h8 : prodP (x :: y :: l) = x.1 ^ x.2 * (y.1 ^ y.2 * prodP l) := rfl
        rw [hx2, Nat.pow_one] at h8
        have h9 : d * d ≤ x.1 * (y.1 ^ y.2 * prodP l) := Nat.mul_le_mul (by omega) (by omega)
        omega
    subst hl
    have he : prodP [x] = x.1 := by simp [prodP, hx2]
    rw [he]
    refine ⟨?_, h.2.1.1, h.2.1⟩
    rw [show x = (x.1, 1) from Prod.ext rfl hx2]

end Go.Proofs.Ytldfbadcigdbkaa.M
