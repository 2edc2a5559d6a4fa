/- Common numbers of remainders. Nothing here speaks of the program. -/
import Derived.Test.YtldfbadcigdbkaaInv
namespace Go.Proofs.Ytldfbadcigdbkaa.M

/-- How often the multiple is added, so that the rest r modulo m is left; none, if it never is. -/
def stepT (x all r m : Nat) : Option Nat := (List.range (m / Nat.gcd all m)).find? fun T => (x + all * T) % m == r

def crt : Nat → Nat → List (Nat × Nat) → Option (Nat × Nat)
  | x, all, [] => some (x, all)
  | x, all, (r, m) :: t =>
    match stepT x all r m with
    | none => none
    | some T => crt (x + all * T) (all * (m / Nat.gcd all m)) t

def maxMul : Nat := 4611686018427387904

/-- Whether the least common multiple stays within the limit. -/
def small : Nat → List Nat → Bool
  | _, [] => true
  | all, m :: l => if maxMul / (m / Nat.gcd all m) < all then false else small (all * (m / Nat.gcd all m)) l

def lcmOf : Nat → List Nat → Nat
  | all, [] => all
  | all, m :: l => lcmOf (all * (m / Nat.gcd all m)) l

theorem gcd_parts {all m : Nat} (ha : 1 ≤ all) (hm : 1 ≤ m) :
    1 ≤ Nat.gcd all m ∧ all = Nat.gcd all m * (all / Nat.gcd all m) ∧ m = Nat.gcd all m * (m / Nat.gcd all m) ∧ Nat.Coprime (all / Nat.gcd all m) (m / Nat.gcd all m) ∧ 1 ≤ m / Nat.gcd all m ∧ 1 ≤ all / Nat.gcd all m ∧ m / Nat.gcd all m ≤ m := by
  have hg : 0 < Nat.gcd all m := Nat.gcd_pos_of_pos_left _ ha
  refine ⟨hg, (Nat.mul_div_cancel' (Nat.gcd_dvd_left all m)).symm, (Nat.mul_div_cancel' (Nat.gcd_dvd_right all m)).symm, Nat.coprime_div_gcd_div_gcd hg, ?_, ?_, Nat.div_le_self _ _⟩
  · exact Nat.div_pos (Nat.le_of_dvd hm (Nat.gcd_dvd_right all m)) hg
  · exact Nat.div_pos (Nat.le_of_dvd ha (Nat.gcd_dvd_left all m)) hg

/-- What T is: in range, and it closes the gap. -/
structure IsT (x all r m T : Nat) : Prop where
  lt : T < m / Nat.gcd all m
  dvd : ((m / Nat.gcd all m : Nat) : Int) ∣ ((all / Nat.gcd all m : Nat) : Int) * T - ((r : Int) - x) / ((Nat.gcd all m : Nat) : Int)

theorem IsT.mod {x all r m T : Nat} (ha : 1 ≤ all) (hm : 1 ≤ m) (hr : r < m) (hg : ((Nat.gcd all m : Nat) : Int) ∣ (r : Int) - x) (h : IsT x all r m T) : (x + all * T) % m = r := by
  obtain ⟨g1, e1, e2, hc, _⟩ := gcd_parts ha hm
  have h1 := h.dvd
  have hk := Int.mul_ediv_cancel' hg
  generalize Nat.gcd all m = g at *
  generalize all / g = A at *
  generalize m / g = N at *
  generalize ((r : Int) - x) / (g : Int) = D at *
  obtain ⟨c, hc2⟩ := h1
  have h2 : ((x + all * T : Nat) : Int) = r + m * c := by
    have e3 : (all : Int) = (g : Int) * (A : Int) := by rw [e1]; simp
    have e4 : (m : Int) = (g : Int) * (N : Int) := by rw [e2]; simp
    rw [Int.natCast_add, Int.natCast_mul, e3, e4]
    grind
  have h3 : ((x + all * T : Nat) : Int) % (m : Int) = (r : Int) := by
    rw [h2, Int.add_mul_emod_self_left, Int.emod_eq_of_lt (by omega) (by omega)]
  exact_mod_cast h3

theorem T_unique {x all r m T T' : Nat} (ha : 1 ≤ all) (hm : 1 ≤ m) (hT : T < m / Nat.gcd all m) (hT' : T' < m / Nat.gcd all m) (h : (x + all * T) % m = r) (h' : (x + all * T') % m = r) : T = T' := by
  obtain ⟨g1, e1, e2, hc, _⟩ := gcd_parts ha hm
  have key : ∀ {S S' : Nat}, S ≤ S' → S' < m / Nat.gcd all m → (x + all * S) % m = r → (x + all * S') % m = r → S = S' := by
    intro S S' hle hlt hS hS'
    have h1 : m ∣ (x + all * S') - (x + all * S) := Nat.dvd_of_mod_eq_zero (Nat.sub_mod_eq_zero_of_mod_eq (hS'.trans hS.symm))
    have h2 : (x + all * S') - (x + all * S) = all * (S' - S) := by rw [Nat.mul_sub]; omega
    rw [h2] at h1
    have h3 : m / Nat.gcd all m ∣ all / Nat.gcd all m * (S' - S) := by
      refine Nat.dvd_of_mul_dvd_mul_left g1 ?_
      rw [← e2, ← Nat.mul_assoc, ← e1]; exact h1
    have h4 := hc.symm.dvd_of_dvd_mul_left h3
    by_cases h0 : S' - S = 0
    · omega
    · have := Nat.le_of_dvd (by omega) h4; omega
  rcases Nat.le_total T T' with hl | hl
  · exact key hl hT' h h'
  · exact (key hl hT h' h).symm

theorem find_range {n T : Nat} {p : Nat → Bool} (hT : T < n) (hp : p T = true) (hu : ∀ S, S < n → p S = true → S = T) : (List.range n).find? p = some T := by
  cases hf : (List.range n).find? p with
  | none =>
    have := List.find?_eq_none.1 hf T (List.mem_range.2 hT)
    exact absurd hp this
  | some S =>
    have h1 := List.find?_some hf
    have h2 := List.mem_of_find?_eq_some hf
    rw [hu S (List.mem_range.1 h2) h1]

theorem stepT_some {x all r m T : Nat} (ha : 1 ≤ all) (hm : 1 ≤ m) (hr : r < m) (hg : ((Nat.gcd all m : Nat) : Int) ∣ (r : Int) - x) (h : IsT x all r m T) : stepT x all r m = some T := by
  have h1 := h.mod ha hm hr hg
  refine find_range h.lt (by simpa using h1) fun S hS hp => ?_
  exact T_unique ha hm hS h.lt (by simpa using hp) h1

theorem stepT_none {x all r m : Nat} (hg : ¬ ((Nat.gcd all m : Nat) : Int) ∣ (r : Int) - x) : stepT x all r m = none := by
  refine List.find?_eq_none.2 fun T _ hp => hg ?_
  have h1 : (x + all * T) % m = r := by simpa using hp
  have h2 := Nat.div_add_mod (x + all * T) m
  rw [h1] at h2
  have h3 : (r : Int) - x = (all : Int) * T - (m : Int) * (((x + all * T) / m : Nat) : Int) := by
    have h4 : ((m * ((x + all * T) / m) + r : Nat) : Int) = ((x + all * T : Nat) : Int) := by rw [h2]
    rw [Int.natCast_add, Int.natCast_mul, Int.natCast_add, Int.natCast_mul] at h4
    omega
  rw [h3]
  exact Int.dvd_sub (Int.dvd_trans (Int.natCast_dvd_natCast.2 (Nat.gcd_dvd_left all m)) (Int.dvd_mul_right _ _)) (Int.dvd_trans (Int.natCast_dvd_natCast.2 (Nat.gcd_dvd_right all m)) (Int.dvd_mul_right _ _))

/-- The number that closes the gap, by an inverse i of the step. -/
theorem closes {A N : Nat} {D i : Int} (hi : ((A : Int) % N) * i % (N : Int) = 1 % (N : Int)) :
    (N : Int) ∣ (A : Int) * (D % N * i % N) - D := by
  refine Int.dvd_of_emod_eq_zero ?_
  rw [Int.sub_emod, Int.mul_emod, Int.emod_emod, ← Int.mul_emod]
  have h1 : (A : Int) * (D % N * i) % N = D % N := by
    have h2 : (A : Int) * (D % N * i) = (D % N) * (A * i) := by grind
    have h5 : ((A : Int) * i) % (N : Int) = 1 % (N : Int) := by rw [← hi, Int.mul_emod (A : Int) i, Int.mul_emod ((A : Int) % N) i, Int.emod_emod]
    rw [h2, Int.mul_emod, h5, ← Int.mul_emod, Int.mul_one, Int.emod_emod]
  rw [h1, Int.sub_self, Int.zero_emod]

theorem exists_step_inv {A N : Nat} (hN : 1 ≤ N) (hc : Nat.Coprime A N) : ∃ i : Int, 0 ≤ i ∧ i < N ∧ ((A : Int) % N) * i % (N : Int) = 1 % (N : Int) := by
  have h0 := Int.emod_nonneg (A : Int) (show (N : Int) ≠ 0 by omega)
  have h1 := Int.emod_lt_of_pos (A : Int) (show (0 : Int) < N by omega)
  refine exists_inv h0 h1 ?_
  have : ((A : Int) % N).toNat = A % N := by exact_mod_cast Int.toNat_natCast (A % N)
  rw [this, Int.toNat_natCast]
  have h2 : Nat.gcd N (A % N) = Nat.gcd N A := by
    rw [Nat.gcd_comm N (A % N), ← Nat.gcd_rec N A]
  rw [Nat.gcd_comm, h2, Nat.gcd_comm]
  exact hc

theorem exists_T {x all r m : Nat} (ha : 1 ≤ all) (hm : 1 ≤ m) : ∃ T, IsT x all r m T := by
  obtain ⟨g1, e1, e2, hc, hN, _⟩ := gcd_parts ha hm
  obtain ⟨i, hi0, hi1, hi⟩ := exists_step_inv hN hc
  have h := closes (A := all / Nat.gcd all m) (D := ((r : Int) - x) / ((Nat.gcd all m : Nat) : Int)) hi
  have hv0 := Int.emod_nonneg (((r : Int) - x) / ((Nat.gcd all m : Nat) : Int) % ((m / Nat.gcd all m : Nat) : Int) * i) (show ((m / Nat.gcd all m : Nat) : Int) ≠ 0 by omega)
  have hv1 := Int.emod_lt_of_pos (((r : Int) - x) / ((Nat.gcd all m : Nat) : Int) % ((m / Nat.gcd all m : Nat) : Int) * i) (show (0 : Int) < ((m / Nat.gcd all m : Nat) : Int) by omega)
  obtain ⟨T, hT⟩ := Int.eq_ofNat_of_zero_le hv0
  rw [hT] at h hv1
  exact ⟨T, by omega, h⟩

theorem T_value {A N T : Nat} {D v : Int} (hc : Nat.Coprime A N) (hT : T < N) (hv0 : 0 ≤ v) (hvN : v < N) (h : (N : Int) ∣ (A : Int) * T - D) (h' : (N : Int) ∣ (A : Int) * v - D) : v = T := by
  obtain ⟨V, rfl⟩ := Int.eq_ofNat_of_zero_le hv0
  have key : ∀ {S S' : Nat}, S ≤ S' → S' < N → (N : Int) ∣ (A : Int) * S - D → (N : Int) ∣ (A : Int) * S' - D → S = S' := by
    intro S S' hle hlt h1 h2
    have h3 := Int.dvd_sub h2 h1
    have h4 : (A : Int) * S' - D - ((A : Int) * S - D) = ((A * (S' - S) : Nat) : Int) := by
      rw [Int.natCast_mul, Int.natCast_sub hle, Int.mul_sub]; omega
    rw [h4] at h3
    have h5 : N ∣ A * (S' - S) := Int.natCast_dvd_natCast.1 h3
    have h6 := hc.symm.dvd_of_dvd_mul_left h5
    by_cases h0 : S' - S = 0
    · omega
    · have := Nat.le_of_dvd (by omega) h6; omega
  rcases Nat.le_total T V with hl | hl
  · rw [key hl (by omega) h h']
  · rw [key hl hT h' h]

/-- A step stays below the new multiple. -/
theorem step_lt {x all m T : Nat} (hx : x < all) (hT : T < m / Nat.gcd all m) : x + all * T < all * (m / Nat.gcd all m) := by
  have h1 : all * (T + 1) ≤ all * (m / Nat.gcd all m) := Nat.mul_le_mul_left _ hT
  rw [Nat.mul_succ] at h1
  omega

theorem small_le {all m : Nat} {l : List Nat} (ha : 1 ≤ all) (hm : 1 ≤ m) (h : small all (m :: l) = true) : all * (m / Nat.gcd all m) ≤ maxMul ∧ small (all * (m / Nat.gcd all m)) l = true ∧ ¬ maxMul / (m / Nat.gcd all m) < all := by
  rw [small] at h
  have hN := (gcd_parts ha hm).2.2.2.2.1
  split at h
  · cases h
  · rename_i h1
    refine ⟨?_, h, h1⟩
    have h2 : all ≤ maxMul / (m / Nat.gcd all m) := by omega
    exact (Nat.le_div_iff_mul_le hN).1 h2

/-- The rests of one number: each step finds it again. -/
theorem stepT_rest {N all m : Nat} (ha : 1 ≤ all) (hm : 1 ≤ m) : ∃ T, stepT (N % all) all (N % m) m = some T ∧ N % all + all * T = N % (all * (m / Nat.gcd all m)) := by
  obtain ⟨g1, e1, e2, _, hN1, _, _⟩ := gcd_parts ha hm
  have hd1 : all ∣ all * (m / Nat.gcd all m) := Nat.dvd_mul_right _ _
  have hd2 : m ∣ all * (m / Nat.gcd all m) := by
    refine ⟨all / Nat.gcd all m, ?_⟩
    generalize hg : Nat.gcd all m = g at *
    generalize hA : all / g = A at *
    generalize hM : m / g = C at *
    rw [e1, e2]; ac_rfl
  have hpos : 0 < all * (m / Nat.gcd all m) := Nat.mul_pos ha hN1
  have hlt := Nat.mod_lt N hpos
  generalize hy : N % (all * (m / Nat.gcd all m)) = y at *
  have h1 : y % all = N % all := by rw [← hy, Nat.mod_mod_of_dvd _ hd1]
  have h2 : y % m = N % m := by rw [← hy, Nat.mod_mod_of_dvd _ hd2]
  have h3 := Nat.div_add_mod y all
  rw [h1] at h3
  refine ⟨y / all, ?_, by omega⟩
  have hT : y / all < m / Nat.gcd all m := (Nat.div_lt_iff_lt_mul ha).2 (by rw [Nat.mul_comm]; exact hlt)
  have hval : (N % all + all * (y / all)) % m = N % m := by rw [Nat.add_comm, h3, h2]
  exact find_range hT (by simpa using hval) fun S hS hp => T_unique ha hm hS hT (by simpa using hp) hval

theorem crt_rests {N : Nat} : ∀ (Q : List Nat) (all : Nat), 1 ≤ all → (∀ q ∈ Q, 1 ≤ q) → crt (N % all) all (Q.map fun q => (N % q, q)) = some (N % lcmOf all Q, lcmOf all Q)
  | [], all, _, _ => rfl
  | m :: Q, all, ha, hq => by
    have hm := hq m (by simp)
    obtain ⟨T, h1, h2⟩ := stepT_rest (N := N) ha hm
    have hN1 := (gcd_parts ha hm).2.2.2.2.1
    rw [List.map_cons, crt, h1]
    show crt (N % all + all * T) _ _ = _
    rw [h2, crt_rests Q _ (Nat.mul_pos ha hN1) (fun q hq' => hq q (by simp [hq']))]
    rfl

theorem lcm_pos : ∀ (Q : List Nat) (all : Nat), 1 ≤ all → (∀ q ∈ Q, 1 ≤ q) → 1 ≤ lcmOf all Q ∧ all ∣ lcmOf all Q ∧ ∀ q ∈ Q, q ∣ lcmOf all Q
  | [], all, ha, _ => ⟨ha, Nat.dvd_refl _, by simp⟩
  | m :: Q, all, ha, hq => by
    have hm := hq m (by simp)
    obtain ⟨g1, e1, e2, _, hN1, _, _⟩ := gcd_parts ha hm
    obtain ⟨h1, h2, h3⟩ := lcm_pos Q (all * (m / Nat.gcd all m)) (Nat.mul_pos ha hN1) (fun q hq' => hq q (by simp [hq']))
    have hd2 : m ∣ all * (m / Nat.gcd all m) := by
      refine ⟨all / Nat.gcd all m, ?_⟩
      generalize hg : Nat.gcd all m = g at *
      generalize hA : all / g = A at *
      generalize hM : m / g = C at *
      rw [e1, e2]; ac_rfl
    refine ⟨h1, Nat.dvd_trans (Nat.dvd_mul_right _ _) h2, fun q hq' => ?_⟩
    rcases List.mem_cons.1 hq' with rfl | hq'
    · exact Nat.dvd_trans hd2 h2
    · exact h3 q hq'

theorem small_few {b : Nat} : ∀ (Q : List Nat) (all : Nat), 1 ≤ all → (∀ q ∈ Q, 1 ≤ q ∧ q ≤ b) → all * b ^ Q.length ≤ maxMul → 1 ≤ b → small all Q = true
  | [], _, _, _, _, _ => rfl
  | m :: Q, all, ha, hq, hle, hb => by
    obtain ⟨hm1, hm2⟩ := hq m (by simp)
    obtain ⟨g1, e1, e2, _, hN1, _, hNm⟩ := gcd_parts ha hm1
    have h1 : all * (m / Nat.gcd all m) * b ^ Q.length ≤ all * b ^ (m :: Q).length := by
      rw [List.length_cons, Nat.pow_succ, Nat.mul_assoc]
      refine Nat.mul_le_mul_left _ ?_
      rw [Nat.mul_comm]
      exact Nat.mul_le_mul_left _ (by omega)
    have h2 : all * (m / Nat.gcd all m) ≤ maxMul := by
      have h3 : all * (m / Nat.gcd all m) * 1 ≤ all * (m / Nat.gcd all m) * b ^ Q.length := Nat.mul_le_mul_left _ (Nat.pow_pos (by omega))
      omega
    rw [small, if_neg]
    · exact small_few Q _ (Nat.mul_pos ha hN1) (fun q hq' => hq q (by simp [hq'])) (by omega) hb
    · have := (Nat.le_div_iff_mul_le hN1).2 h2
      omega

theorem small_lcm : ∀ (Q : List Nat) (all : Nat), 1 ≤ all → all ≤ maxMul → (∀ q ∈ Q, 1 ≤ q) → small all Q = true → lcmOf all Q ≤ maxMul
  | [], _, _, h, _, _ => h
  | m :: Q, all, ha, _, hq, hs => by
    have hm := hq m (by simp)
    obtain ⟨h1, h2, _⟩ := small_le ha hm hs
    exact small_lcm Q _ (Nat.mul_pos ha (gcd_parts ha hm).2.2.2.2.1) h1 (fun q hq' => hq q (by simp [hq'])) h2

end Go.Proofs.Ytldfbadcigdbkaa.M
