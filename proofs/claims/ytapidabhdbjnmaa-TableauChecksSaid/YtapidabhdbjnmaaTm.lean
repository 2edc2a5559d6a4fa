/- Insertion into rows: where a number goes, and what comes of it. -/
import Derived.Test.YtapidabhdbjnmaaTb
namespace Go.Proofs.Ytapidabhdbjnmaa
namespace T

/-- How many numbers at the beginning of a row are at most x. -/
def pos (x : Nat) : List Nat → Nat
  | [] => 0
  | y :: r => if y ≤ x then pos x r + 1 else 0
theorem pos_le (x : Nat) : ∀ r : List Nat, pos x r ≤ r.length
  | [] => Nat.le_refl _
  | y :: r => by
    rw [pos]
    split
    · have := pos_le x r; simp; omega
    · exact Nat.zero_le _
theorem pos_lt (x : Nat) : ∀ (r : List Nat) (i : Nat), i < pos x r → r.getD i 0 ≤ x
  | [], i, h => by simp [pos] at h
  | y :: r, i, h => by
    rw [pos] at h
    split at h
    · next hy =>
      cases i with
      | zero => exact hy
      | succ i => exact pos_lt x r i (by omega)
    · omega
theorem pos_at (x : Nat) : ∀ (r : List Nat), pos x r < r.length → x < r.getD (pos x r) 0
  | [], h => by simp at h
  | y :: r, h => by
    rw [pos] at h ⊢
    split
    · next hy =>
      rw [if_pos hy] at h
      exact pos_at x r (by simp at h; omega)
    · next hy =>
      show x < y
      omega
/-- It is the only such place. -/
theorem pos_eq (x : Nat) : ∀ (r : List Nat) (k : Nat), k ≤ r.length → (∀ i, i < k → r.getD i 0 ≤ x) → (k < r.length → x < r.getD k 0) → k = pos x r
  | [], k, h, _, _ => by simp at h; simp [pos, h]
  | y :: r, k, h, h1, h2 => by
    rw [pos]
    cases k with
    | zero =>
      have h3 : x < y := h2 (by simp)
      rw [if_neg (by omega)]
    | succ k =>
      have h3 : y ≤ x := h1 0 (by omega)
      rw [if_pos h3, pos_eq x r k (by simpa using h) (fun i hi => h1 (i + 1) (by omega)) (fun hk => h2 (by simpa using hk))]

/-- Rows in which numbers do not descend. -/
def Asc (r : List Nat) : Prop := ∀ i, i + 1 < r.length → r.getD i 0 ≤ r.getD (i + 1) 0
theorem Asc.le {r : List Nat} (h : Asc r) : ∀ (j i : Nat), i ≤ j → j < r.length → r.getD i 0 ≤ r.getD j 0 := by
  intro j
  induction j with
  | zero => intro i hi _; rw [show i = 0 by omega]; exact Nat.le_refl _
  | succ j ih =>
    intro i hi hj
    by_cases e : i = j + 1
    · rw [e]; exact Nat.le_refl _
    · exact Nat.le_trans (ih i (by omega) (by omega)) (h j hj)

/-- The insertion: the rows, and which of them grew. -/
def ins : List (List Nat) → Nat → List (List Nat) × Nat
  | [], x => ([[x]], 0)
  | r :: rs, x => if pos x r = r.length then ((r ++ [x]) :: rs, 0) else ((r.set (pos x r) x) :: (ins rs (r.getD (pos x r) 0)).1, (ins rs (r.getD (pos x r) 0)).2 + 1)

theorem getD_app (r : List Nat) (x i : Nat) : (r ++ [x]).getD i 0 = if i < r.length then r.getD i 0 else if i = r.length then x else 0 := by
  rw [List.getD_eq_getElem?_getD, List.getElem?_append]
  split
  · rw [← List.getD_eq_getElem?_getD]
  · next h =>
    by_cases e : i = r.length
    · rw [if_pos e, e]; simp
    · rw [if_neg e, List.getElem?_eq_none (by simp; omega)]; rfl
theorem getD_set (r : List Nat) (k x i : Nat) : (r.set k x).getD i 0 = if k = i ∧ i < r.length then x else r.getD i 0 := by
  rw [List.getD_eq_getElem?_getD, List.getElem?_set]
  by_cases h : k = i
  · rw [if_pos h]
    by_cases h2 : i < r.length
    · rw [if_pos (by omega), if_pos ⟨h, h2⟩]; rfl
    · rw [if_neg (by omega), if_neg (fun h3 => h2 h3.2), List.getD_eq_getElem?_getD, List.getElem?_eq_none (by omega)]
  · rw [if_neg h, if_neg (fun h3 => h h3.1), ← List.getD_eq_getElem?_getD]
theorem Asc.app {r : List Nat} {x : Nat} (h : Asc r) (hp : pos x r = r.length) : Asc (r ++ [x]) := fun i hi => by
  rw [List.length_append, List.length_singleton] at hi
  rw [getD_app, getD_app, if_pos (by omega)]
  by_cases e : i + 1 < r.length
  · rw [if_pos e]; exact h i e
  · rw [if_neg e, if_pos (by omega)]
    exact pos_lt x r i (by omega)
theorem Asc.put {r : List Nat} {x : Nat} (h : Asc r) (hp : pos x r < r.length) : Asc (r.set (pos x r) x) := fun i hi => by
  rw [List.length_set] at hi
  rw [getD_set, getD_set]
  have h1 := h i hi
  have h2 := pos_at x r hp
  by_cases e1 : pos x r = i
  · rw [if_pos ⟨e1, by omega⟩, if_neg (by omega)]
    rw [e1] at h2
    omega
  · rw [if_neg (fun h3 => e1 h3.1)]
    by_cases e2 : pos x r = i + 1
    · rw [if_pos ⟨e2, hi⟩]
      exact pos_lt x r i (by omega)
    · rw [if_neg (fun h3 => e2 h3.1)]; exact h1

/-- What is kept: rows are not empty and do not descend, and there is one number more. -/
def Ok (rs : List (List Nat)) : Prop := ∀ r ∈ rs, r.length ≠ 0 ∧ Asc r
def size (rs : List (List Nat)) : Nat := (rs.map List.length).sum
theorem ins_ok : ∀ (rs : List (List Nat)) (x : Nat), Ok rs → Ok (ins rs x).1 ∧ size (ins rs x).1 = size rs + 1 ∧ (ins rs x).2 ≤ rs.length ∧ (ins rs x).1.length = (if (ins rs x).2 = rs.length then rs.length + 1 else rs.length)
  | [], x, _ => by
    refine ⟨fun r hr => ?_, rfl, Nat.le_refl _, rfl⟩
    simp [ins] at hr
    subst hr
    exact ⟨by simp, fun i hi => by simp at hi⟩
  | r :: rs, x, h => by
    have hr := h r (by simp)
    have hrs : Ok rs := fun q hq => h q (by simp [hq])
    rw [ins]
    by_cases hp : pos x r = r.length
    · rw [if_pos hp]
      refine ⟨fun q hq => ?_, ?_, Nat.zero_le _, ?_⟩
      · rcases List.mem_cons.1 hq with h1 | h1
        · rw [h1]; exact ⟨by simp, hr.2.app hp⟩
        · exact hrs q h1
      · simp [size]; omega
      · rw [if_neg (by simp)]; rfl
    · rw [if_neg hp]
      obtain ⟨i1, i2, i3, i4⟩ := ins_ok rs (r.getD (pos x r) 0) hrs
      have hpl : pos x r < r.length := by have := pos_le x r; omega
      refine ⟨fun q hq => ?_, ?_, by simp; exact i3, ?_⟩
      · rcases List.mem_cons.1 hq with h1 | h1
        · rw [h1]; exact ⟨by rw [List.length_set]; exact hr.1, hr.2.put hpl⟩
        · exact i1 q h1
      · unfold size at i2 ⊢
        simp only [List.map_cons, List.sum_cons, List.length_set]
        omega
      · simp only [List.length_cons, i4]
        by_cases e : (ins rs (r.getD (pos x r) 0)).2 = rs.length
        · rw [if_pos e, if_pos (by omega)]
        · rw [if_neg e, if_neg (by omega)]

/-- The pair of a word, so far. -/
def step (pq : List (List Nat) × List (List Nat)) (x k : Nat) : List (List Nat) × List (List Nat) :=
  ((ins pq.1 x).1, if (ins pq.1 x).2 = pq.2.length then pq.2 ++ [[k]] else pq.2.set (ins pq.1 x).2 (pq.2.getD (ins pq.1 x).2 [] ++ [k]))
def pair (word : List Nat) : Nat → List (List Nat) × List (List Nat)
  | 0 => ([], [])
  | i + 1 => step (pair word i) (word.getD i 0) (i + 1)

end T
end Go.Proofs.Ytapidabhdbjnmaa
