/- Logarithms by great and small steps. Nothing here speaks of the program. -/
import Derived.Test.YtldfbadcigdbkaaTon
namespace Go.Proofs.Ytldfbadcigdbkaa.M

theorem exists_root (n : Nat) (h1 : 1 ≤ n) : ∃ W, 1 ≤ W ∧ n ≤ W * W ∧ ∀ v, 1 ≤ v → v < W → v * v < n := by
  suffices H : ∀ b W, W ≤ b → 1 ≤ W → n ≤ W * W → ∃ W, 1 ≤ W ∧ n ≤ W * W ∧ ∀ v, 1 ≤ v → v < W → v * v < n from
    H n n (Nat.le_refl _) h1 (Nat.le_mul_of_pos_right _ h1)
  intro b
  induction b with
  | zero => intro W h0 h1; omega
  | succ b ih =>
    intro W hb h1 hW
    by_cases h : ∃ v, 1 ≤ v ∧ v < W ∧ n ≤ v * v
    · obtain ⟨v, h2, h3, h4⟩ := h
      exact ih v (by omega) h2 h4
    · refine ⟨W, h1, hW, fun v h2 h3 => ?_⟩
      refine Classical.byContradiction fun h4 => h ⟨v, h2, h3, by omega⟩

theorem root_le {n W : Nat} (hn : n ≤ 2147483647) (h : ∀ v, 1 ≤ v → v < W → v * v < n) : W ≤ 46341 := by
  refine Classical.byContradiction fun hc => ?_
  have := h 46341 (by omega) (by omega)
  omega

theorem root_self {n W : Nat} (h1 : 1 ≤ n) (h : ∀ v, 1 ≤ v → v < W → v * v < n) : W ≤ n := by
  refine Classical.byContradiction fun hc => ?_
  have h2 := h n h1 (by omega)
  have := Nat.le_mul_of_pos_right n h1
  omega

theorem IsOrd.eq_of {g o p i j : Nat} (h : IsOrd g o p) (hi : i < o) (hj : j < o) (he : g ^ i % p = g ^ j % p) : i = j := by
  rcases Nat.lt_trichotomy i j with h1 | h1 | h1
  · exact absurd he (h.inj h1 hj)
  · exact h1
  · exact absurd he.symm (h.inj h1 hi)

/-- Everything whose power with the order is 1 is a power, modulo a prime. -/
theorem IsOrd.log {g o p a : Nat} (hp : Pr p) (h : IsOrd g o p) (hap : a < p) (ha : a ^ o % p = 1) : ∃ k, k < o ∧ a = g ^ k % p := by
  refine Classical.byContradiction fun hno => ?_
  have h1p := mod_of_one_lt hp.1
  have hnot : ∀ k, k < o → a ≠ g ^ k % p := fun k hk e => hno ⟨k, hk, e⟩
  have hlen := roots_of_one hp h.pos (a :: (List.range o).map fun i => g ^ i % p) (by
    rw [List.nodup_cons]
    refine ⟨fun hm => ?_, ?_⟩
    · obtain ⟨k, hk, he⟩ := List.mem_map.1 hm
      exact hnot k (List.mem_range.1 hk) he.symm
    · rw [List.nodup_iff_pairwise_ne, List.pairwise_map]
      refine List.Pairwise.imp_of_mem ?_ (List.pairwise_lt_range (n := o))
      intro i j _ hj hij
      exact h.inj hij (List.mem_range.1 hj)) (by
    intro x hx
    rcases List.mem_cons.1 hx with rfl | hx
    · exact ⟨hap, ha⟩
    · obtain ⟨k, hk, rfl⟩ := List.mem_map.1 hx
      refine ⟨Nat.mod_lt _ (by have := hp.1; omega), ?_⟩
      rw [pow_zmod, Nat.mul_comm, pow_one_mul h.one, h1p])
  simp at hlen
  omega

/-- A great step back. -/
theorem step_back {g p W b x : Nat} (hb : g ^ W * b % p = 1 % p) (hx : W ≤ x) : g ^ x % p * b % p = g ^ (x - W) % p := by
  rw [Nat.mod_mul_mod, show g ^ x = g ^ (x - W) * g ^ W by rw [← Nat.pow_add]; congr 1; omega, Nat.mul_assoc, Nat.mul_mod, hb, ← Nat.mul_mod, Nat.mul_one]

end Go.Proofs.Ytldfbadcigdbkaa.M
