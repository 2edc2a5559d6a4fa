/- The small fields, polynomial by polynomial: the first irreducible one, and how many. -/
import Derived.Test.YtgnpohapmijfiaaG10
namespace Go.Proofs.Ytgnpohapmijfiaa
namespace Q

def polB' (p : Nat) (f : List Nat) : Bool := f.all (fun c => decide (c < p)) && decide (f.getD (f.length - 1) 0 ≠ 0)
theorem pol_of_B {p : Nat} {f : List Nat} (h : polB' p f = true) : Pol p f := by
  unfold polB' at h
  rw [Bool.and_eq_true, List.all_eq_true, decide_eq_true_iff] at h
  exact pol_of (fun x hx => by simpa using h.1 x hx) (.inr h.2)

def stepOk (p : Nat) (res : List Nat) : Nat → List Nat → Bool
  | 0, _ => false
  | n + 1, f => polB' p f && ((irredP p f && f == res) || (!irredP p f && (List.range f.length).any (fun j => f.getD j 0 != p - 1) && ((advanceP p f).length == f.length) && stepOk p res n (advanceP p f)))
theorem stepOk_is {p : Nat} {res : List Nat} : ∀ (n : Nat) (f : List Nat), stepOk p res n f = true → FirstOk p res n f
  | 0, f, h => by simp [stepOk] at h
  | n + 1, f, h => by
    rw [stepOk, Bool.and_eq_true, Bool.or_eq_true] at h
    refine ⟨pol_of_B h.1, ?_⟩
    rcases h.2 with h2 | h2
    · rw [Bool.and_eq_true, beq_iff_eq] at h2
      exact .inl h2
    · simp only [Bool.and_eq_true, Bool.not_eq_true', List.any_eq_true, List.mem_range, bne_iff_ne, beq_iff_eq] at h2
      exact .inr ⟨h2.1.1.1, h2.1.1.2, h2.1.2, stepOk_is n _ h2.2⟩

/-- The k-th monic polynomial of degree n, number by number. -/
def digS (p n k : Nat) : Nat → List Nat
  | 0 => List.replicate n 0 ++ [1]
  | i + 1 => (digS p n k i).set i (k / p ^ i % p)
def dig (p n k : Nat) : List Nat := digS p n k n
theorem digS_len (p n k : Nat) : ∀ i, (digS p n k i).length = n + 1
  | 0 => by simp [digS]
  | i + 1 => by rw [digS, List.length_set, digS_len p n k i]
theorem digS_last (p n k : Nat) : ∀ i, i ≤ n → (digS p n k i).getD n 0 = 1
  | 0, _ => by simp [digS, List.getD]
  | i + 1, h => by
    rw [digS, List.getD_eq_getElem?_getD, List.getElem?_set_ne (by omega), ← List.getD_eq_getElem?_getD]
    exact digS_last p n k i (by omega)
theorem digS_red {p : Nat} (hp : 2 ≤ p) (n k : Nat) : ∀ i, Red p (digS p n k i)
  | 0 => fun x hx => by
    simp only [digS, List.mem_append, List.mem_replicate, List.mem_singleton] at hx
    omega
  | i + 1 => fun x hx => by
    rcases List.mem_or_eq_of_mem_set hx with h | h
    · exact digS_red hp n k i x h
    · rw [h]; exact Nat.mod_lt _ (by omega)
theorem dig_pol {p : Nat} (hp : 2 ≤ p) (n k : Nat) : Pol p (dig p n k) ∧ (dig p n k).length = n + 1 := by
  have hl := digS_len p n k n
  refine ⟨pol_of (digS_red hp n k n) (.inr ?_), hl⟩
  unfold dig
  rw [hl, Nat.add_sub_cancel, digS_last p n k n (Nat.le_refl _)]
  omega

/-- The rounds over all of them: how many are irreducible, none if the first of them is not res. -/
def scanB (p n : Nat) (res : List Nat) : Nat → Nat → Nat → Option Nat
  | 0, _, c => some c
  | m + 1, k, c => if irredP p (dig p n k) then (if c = 0 ∧ dig p n k ≠ res then none else scanB p n res m (k + 1) (c + 1)) else scanB p n res m (k + 1) c

def resOf (p n : Nat) : List Nat := (firstLoop p 130 (List.replicate n 0 ++ [1])).getD []
def allB (p n : Nat) : Bool := stepOk p (resOf p n) 130 (List.replicate n 0 ++ [1]) && (scanB p n (resOf p n) (p ^ n) 0 0 == some (countP p n n).toNat) && decide (0 ≤ countP p n n) && ((resOf p n).length == n + 1)

set_option maxRecDepth 100000 in
theorem all_ok : ∀ x ∈ [(2, 1), (2, 2), (2, 3), (2, 4), (2, 5), (2, 6), (3, 1), (3, 2), (3, 3), (3, 4), (5, 1), (5, 2), (5, 3), (7, 1), (7, 2)], allB x.1 x.2 = true := by decide +kernel

structure AllIs (p n T : Nat) (res : List Nat) : Prop where
  first : FirstOk p res 130 (List.replicate n 0 ++ [1])
  scan : scanB p n res (p ^ n) 0 0 = some T
  count : countP p n n = (T : Int)
  len : res.length = n + 1
theorem all_is {p n : Nat} (hp : p = 2 ∨ p = 3 ∨ p = 5 ∨ p = 7) (h1 : 1 ≤ n) (h6 : n ≤ 6) (hm : p ^ n ≤ 130) : ∃ T res, AllIs p n T res := by
  have h : allB p n = true := by
    have hmem : (p, n) ∈ [(2, 1), (2, 2), (2, 3), (2, 4), (2, 5), (2, 6), (3, 1), (3, 2), (3, 3), (3, 4), (5, 1), (5, 2), (5, 3), (7, 1), (7, 2)] := by
      rcases (by omega : n = 1 ∨ n = 2 ∨ n = 3 ∨ n = 4 ∨ n = 5 ∨ n = 6) with rfl | rfl | rfl | rfl | rfl | rfl <;> rcases hp with rfl | rfl | rfl | rfl <;> first | decide | (exfalso; revert hm; decide)
    exact all_ok _ hmem
  unfold allB at h
  simp only [Bool.and_eq_true, beq_iff_eq, decide_eq_true_iff] at h
  exact ⟨(countP p n n).toNat, resOf p n, stepOk_is _ _ h.1.1.1, h.1.1.2, by omega, h.2⟩

end Q
end Go.Proofs.Ytgnpohapmijfiaa
