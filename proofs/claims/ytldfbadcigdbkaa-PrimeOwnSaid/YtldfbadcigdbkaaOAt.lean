/- How an exponent is divided till it is the order. Nothing here speaks of the program. -/
import Derived.Test.YtldfbadcigdbkaaFacStep
import Derived.Test.YtldfbadcigdbkaaMath
namespace Go.Proofs.Ytldfbadcigdbkaa.M

/-- The exponent e, behind the first k primes: the order divides it, and no more of these primes can be divided out. -/
structure OAt (o phi : Nat) (L : List (Nat × Nat)) (k e : Nat) : Prop where
  dvd : o ∣ e
  up : e ∣ phi
  pos : 1 ≤ e
  done : ∀ j (h : j < L.length), j < k → ¬ o * L[j].1 ∣ e

theorem OAt.start {a o phi m : Nat} {L : List (Nat × Nat)} (ho : IsOrd a o m) (h1 : 1 ≤ phi) (h : a ^ phi % m = 1 % m) : OAt o phi L 0 phi :=
  ⟨ho.dvd h, Nat.dvd_refl _, h1, fun j _ hj => by omega⟩

theorem order_test {a o m e q : Nat} (ho : IsOrd a o m) (hq : 1 ≤ q) (hd : q ∣ e) : a ^ (e / q) % m = 1 % m ↔ o * q ∣ e := by
  obtain ⟨c, rfl⟩ := hd
  rw [Nat.mul_div_cancel_left _ (by omega), Nat.mul_comm o q]
  constructor
  · intro h
    exact Nat.mul_dvd_mul_left q (ho.dvd h)
  · intro h
    obtain ⟨d, hd⟩ := Nat.dvd_of_mul_dvd_mul_left (by omega) h
    rw [hd]; exact pow_one_mul ho.one d

theorem OAt.div {o phi k e q : Nat} {L : List (Nat × Nat)} (h : OAt o phi L k e) (hq : 2 ≤ q) (hd : o * q ∣ e) : OAt o phi L k (e / q) ∧ e / q < e := by
  obtain ⟨c, hc⟩ := hd
  have hpos := h.pos
  have he : e / q = o * c := by rw [hc, show o * q * c = q * (o * c) by ac_rfl, Nat.mul_div_cancel_left _ (by omega)]
  have hde : e / q ∣ e := Nat.div_dvd_of_dvd ⟨o * c, by rw [hc]; ac_rfl⟩
  have hlt : e / q < e := Nat.div_lt_self hpos (by omega)
  refine ⟨⟨⟨c, he⟩, Nat.dvd_trans hde h.up, ?_, fun j hj hk hjd => h.done j hj hk (Nat.dvd_trans hjd hde)⟩, hlt⟩
  exact Nat.pos_of_dvd_of_pos hde hpos

theorem OAt.next {o phi k e : Nat} {L : List (Nat × Nat)} (h : OAt o phi L k e) (hk : k < L.length) (hd : ¬ o * L[k].1 ∣ e) : OAt o phi L (k + 1) e :=
  ⟨h.dvd, h.up, h.pos, fun j hj hjk => by
    by_cases e1 : j = k
    · subst e1; exact hd
    · exact h.done j hj (by omega)⟩

theorem OAt.finish {o phi e : Nat} {L : List (Nat × Nat)} (h : OAt o phi L L.length e) (hL : IsFac phi L) : e = o := by
  obtain ⟨c, hc⟩ := h.dvd
  have hpos := h.pos
  by_cases h1 : c = 1
  · subst h1; omega
  · have hc0 : c ≠ 0 := fun e0 => by subst e0; omega
    obtain ⟨q, hq, hqc⟩ := exists_prime c (by omega)
    exfalso
    have hqe : q ∣ phi := Nat.dvd_trans (Nat.dvd_trans hqc ⟨o, by rw [hc, Nat.mul_comm]⟩) h.up
    obtain ⟨x, hx, hxq⟩ := hL.1.mem_of_dvd hq (by rw [hL.2]; exact hqe)
    obtain ⟨j, hj, hjx⟩ := List.getElem_of_mem hx
    refine h.done j hj hj ?_
    rw [hjx, hxq, hc]
    exact Nat.mul_dvd_mul_left o hqc

/-- In the form that the program's tests have. -/
theorem pw_test {a m : Int} {o e q : Nat} (ho : IsOrd a.toNat o m.toNat) (hq : 1 ≤ q) (hd : q ∣ e) : pw a ((e : Int) / (q : Int)) m = ((1 % m.toNat : Nat) : Int) ↔ o * q ∣ e := by
  rw [← order_test ho hq hd]
  unfold pw
  have : ((e : Int) / (q : Int)).toNat = e / q := by
    rw [show ((e : Int) / (q : Int)) = ((e / q : Nat) : Int) from rfl, Int.toNat_natCast]
  rw [this]
  omega

end Go.Proofs.Ytldfbadcigdbkaa.M
