/- Plays in which both players follow a plan: when a position comes again; the greatest rank. -/
import Derived.Test.YtahhkbdodgjaeaaPk
namespace Go.Proofs.Ytahhkbdodgjaeaa
open Go.RowKit
namespace Pl

theorem pigeon : ∀ (n : Nat) (f : Nat → Nat), (∀ i, i < n → f i < n) → (∀ i j, i < n → j < n → f i = f j → i = j) → ∀ y, y < n → ∃ i, i < n ∧ f i = y
  | 0, f, _, _, y, hy => by omega
  | n + 1, f, h1, h2, y, hy => by
    have hg := pigeon n (fun i => if f i = n then f n else f i) (fun i hi => by
      show (if f i = n then f n else f i) < n
      have := h1 i (by omega)
      have := h1 n (by omega)
      split
      · next e => have := h2 i n (by omega) (by omega); omega
      · omega) (fun i j hi hj e => by
        have e' : (if f i = n then f n else f i) = (if f j = n then f n else f j) := e
        have a1 := h2 i j (by omega) (by omega)
        have a2 := h2 i n (by omega) (by omega)
        have a3 := h2 n j (by omega) (by omega)
        split at e' <;> split at e' <;> omega)
    by_cases e : y = f n
    · exact ⟨n, by omega, e.symm⟩
    · by_cases ey : y = n
      · by_cases en : f n < n
        · obtain ⟨i, hi, hfi⟩ := hg (f n) en
          have hfi' : (if f i = n then f n else f i) = f n := hfi
          split at hfi'
          · next e3 => exact ⟨i, by omega, by omega⟩
          · next e3 => have := h2 i n (by omega) (by omega) hfi'; omega
        · have := h1 n (by omega); omega
      · obtain ⟨i, hi, hfi⟩ := hg y (by omega)
        have hfi' : (if f i = n then f n else f i) = y := hfi
        split at hfi'
        · omega
        · exact ⟨i, by omega, hfi'⟩

/-- The play from v. -/
def it (f : Nat → Nat) (v : Nat) : Nat → Nat
  | 0 => v
  | k + 1 => f (it f v k)
def orb (f : Nat → Nat) (v k : Nat) : List Nat := (List.range k).map (it f v)
theorem orb_length (f : Nat → Nat) (v k : Nat) : (orb f v k).length = k := by simp [orb]
theorem orb_succ (f : Nat → Nat) (v k : Nat) : orb f v (k + 1) = orb f v k ++ [it f v k] := by simp [orb, List.range_succ]
theorem orb_get (f : Nat → Nat) (v : Nat) {i k : Nat} (h : i < k) : (orb f v k).getD i 0 = it f v i := by simp [orb, List.getD, h]
theorem mem_orb (f : Nat → Nat) (v k x : Nat) : x ∈ orb f v k ↔ ∃ i, i < k ∧ it f v i = x := by simp [orb]
theorem it_lt {f : Nat → Nat} {v n : Nat} (hv : v < n) (hf : ∀ i, i < n → f i < n) : ∀ k, it f v k < n
  | 0 => hv
  | k + 1 => hf _ (it_lt hv hf k)
theorem first (f : Nat → Nat) (v : Nat) : ∀ k, (∃ K, K ≤ k ∧ it f v K ∈ orb f v K ∧ ∀ i, i < K → it f v i ∉ orb f v i) ∨ ∀ i, i ≤ k → it f v i ∉ orb f v i
  | 0 => .inr fun i hi => by
    rw [show i = 0 by omega, mem_orb]; rintro ⟨j, hj, _⟩; omega
  | k + 1 => by
    rcases first f v k with ⟨K, h1, h2, h3⟩ | h
    · exact .inl ⟨K, by omega, h2, h3⟩
    · by_cases e : it f v (k + 1) ∈ orb f v (k + 1)
      · exact .inl ⟨k + 1, Nat.le_refl _, e, fun i hi => h i (by omega)⟩
      · exact .inr fun i hi => by
          by_cases h2 : i ≤ k
          · exact h i h2
          · rw [show i = k + 1 by omega]; exact e
/-- The first position that comes again, and where it was. -/
structure Again (f : Nat → Nat) (v K J : Nat) : Prop where
  new : ∀ i, i < K → it f v i ∉ orb f v i
  lt : J < K
  eq : it f v J = it f v K
theorem Again.only {f : Nat → Nat} {v K J : Nat} (h : Again f v K J) : ∀ i j, i < K → j < K → it f v i = it f v j → i = j := fun i j hi hj e => by
  rcases Nat.lt_trichotomy i j with h1 | h1 | h1
  · exact absurd ((mem_orb f v j _).2 ⟨i, h1, e⟩) (h.new j hj)
  · exact h1
  · exact absurd ((mem_orb f v i _).2 ⟨j, h1, e.symm⟩) (h.new i hi)
theorem again {f : Nat → Nat} {v n : Nat} (hv : v < n) (hf : ∀ i, i < n → f i < n) : ∃ K J, K ≤ n ∧ Again f v K J := by
  rcases first f v n with ⟨K, h1, h2, h3⟩ | h
  · obtain ⟨J, h4, h5⟩ := (mem_orb f v K _).1 h2
    exact ⟨K, J, h1, h3, h4, h5⟩
  · exfalso
    have hinj : ∀ i j, i < n → j < n → it f v i = it f v j → i = j := fun i j hi hj e => by
      rcases Nat.lt_trichotomy i j with h1 | h1 | h1
      · exact absurd ((mem_orb f v j _).2 ⟨i, h1, e⟩) (h j (by omega))
      · exact h1
      · exact absurd ((mem_orb f v i _).2 ⟨j, h1, e.symm⟩) (h i (by omega))
    obtain ⟨i, hi, e⟩ := pigeon n (it f v) (fun i _ => it_lt hv hf i) hinj (it f v n) (it_lt hv hf n)
    exact h n (Nat.le_refl _) ((mem_orb f v n _).2 ⟨i, hi, e⟩)

/-- The greatest rank of positions. -/
def topR (R : List Int) (L : List Nat) : Int := L.foldl (fun m l => max m (R.getD l 0)) 0
theorem topR_snoc (R : List Int) (L : List Nat) (x : Nat) : topR R (L ++ [x]) = max (topR R L) (R.getD x 0) := by simp [topR]
theorem fold_bd (R : List Int) : ∀ (L : List Nat) (m : Int), 0 ≤ m → m ≤ 9 → (∀ l ∈ L, 0 ≤ R.getD l 0 ∧ R.getD l 0 ≤ 9) → 0 ≤ L.foldl (fun m l => max m (R.getD l 0)) m ∧ L.foldl (fun m l => max m (R.getD l 0)) m ≤ 9
  | [], m, h1, h2, _ => ⟨h1, h2⟩
  | x :: L, m, h1, h2, h => by
    have h3 := h x (by simp)
    exact fold_bd R L (max m (R.getD x 0)) (by omega) (by omega) fun l hl => h l (by simp [hl])
theorem topR_bd (R : List Int) (L : List Nat) (h : ∀ l ∈ L, 0 ≤ R.getD l 0 ∧ R.getD l 0 ≤ 9) : 0 ≤ topR R L ∧ topR R L ≤ 9 := fold_bd R L 0 (by omega) (by omega) h
end Pl
end Go.Proofs.Ytahhkbdodgjaeaa
