/- The pairs of a word and of its inverse are the same, swapped: rows, their classes, and what is pushed out of them. -/
import Derived.Test.YtapidabhdbjnmaaTm
namespace Go.Proofs.Ytapidabhdbjnmaa
namespace T
theorem Qget {f : List Nat} {i : Nat} (h : i < f.length) : f.getD i 0 = f[i] := by simp [List.getD, h]
theorem Qext {f g : List Nat} (h : f.length = g.length) (hi : ∀ i, i < f.length → f.getD i 0 = g.getD i 0) : f = g := by
  apply List.ext_getElem h
  intro i h1 h2
  have := hi i h1
  rwa [Qget h1, Qget h2] at this
/-- Labelled insertions. -/
def run (pq : List (List Nat) × List (List Nat)) (L : List (Nat × Nat)) : List (List Nat) × List (List Nat) := L.foldl (fun pq p => step pq p.2 p.1) pq
/-- What the first row makes of them: the row, its labels, and what is pushed out of it. -/
def rowGo (r s : List Nat) : List (Nat × Nat) → List Nat × List Nat × List (Nat × Nat)
  | [] => (r, s, [])
  | p :: L => if pos p.2 r = r.length then rowGo (r ++ [p.2]) (s ++ [p.1]) L
    else ((rowGo (r.set (pos p.2 r) p.2) s L).1, (rowGo (r.set (pos p.2 r) p.2) s L).2.1, (p.1, r.getD (pos p.2 r) 0) :: (rowGo (r.set (pos p.2 r) p.2) s L).2.2)

theorem run_cons (L : List (Nat × Nat)) : ∀ (r s : List Nat) (P Q : List (List Nat)), run (r :: P, s :: Q) L = ((rowGo r s L).1 :: (run (P, Q) (rowGo r s L).2.2).1, (rowGo r s L).2.1 :: (run (P, Q) (rowGo r s L).2.2).2) := by
  induction L with
  | nil => intro r s P Q; rfl
  | cons p L ih =>
    intro r s P Q
    by_cases h : pos p.2 r = r.length
    · have e1 : run (r :: P, s :: Q) (p :: L) = run ((r ++ [p.2]) :: P, (s ++ [p.1]) :: Q) L := by
        show L.foldl _ (step (r :: P, s :: Q) p.2 p.1) = _
        have : step (r :: P, s :: Q) p.2 p.1 = ((r ++ [p.2]) :: P, (s ++ [p.1]) :: Q) := by
          simp [step, ins, h]
        rw [this]; rfl
      rw [e1, ih]
      simp [rowGo, h]
    · have e1 : run (r :: P, s :: Q) (p :: L) = run ((r.set (pos p.2 r) p.2) :: (step (P, Q) (r.getD (pos p.2 r) 0) p.1).1, s :: (step (P, Q) (r.getD (pos p.2 r) 0) p.1).2) L := by
        show L.foldl _ (step (r :: P, s :: Q) p.2 p.1) = _
        have : step (r :: P, s :: Q) p.2 p.1 = ((r.set (pos p.2 r) p.2) :: (step (P, Q) (r.getD (pos p.2 r) 0) p.1).1, s :: (step (P, Q) (r.getD (pos p.2 r) 0) p.1).2) := by
          unfold step
          rw [ins, if_neg h]
          simp only [List.length_cons, Nat.add_right_cancel_iff, List.set_cons_succ, List.getD_cons_succ]
          by_cases e : (ins P (r.getD (pos p.2 r) 0)).2 = Q.length
          · rw [if_pos e, if_pos e]; rfl
          · rw [if_neg e, if_neg e]
        rw [this]; rfl
      rw [e1, ih]
      simp only [rowGo, if_neg h]
      rfl

theorem run_nil (p : Nat × Nat) (L : List (Nat × Nat)) : run ([], []) (p :: L) = ((rowGo [] [] (p :: L)).1 :: (run ([], []) (rowGo [] [] (p :: L)).2.2).1, (rowGo [] [] (p :: L)).2.1 :: (run ([], []) (rowGo [] [] (p :: L)).2.2).2) := by
  have e1 : run ([], []) (p :: L) = run ([[p.2]], [[p.1]]) L := by
    show L.foldl _ (step ([], []) p.2 p.1) = _
    rfl
  rw [e1, run_cons]
  rfl

/-- The classes of pairs: how long the longest chain is that ends there. -/
structure Cls (S : List (Nat × Nat)) (c : Nat × Nat → Nat) : Prop where
  up : ∀ p ∈ S, ∀ q ∈ S, p.1 < q.1 → p.2 < q.2 → c p < c q
  down : ∀ q ∈ S, ∀ k, c q = k + 1 → ∃ p ∈ S, p.1 < q.1 ∧ p.2 < q.2 ∧ c p = k

theorem Cls.le {S : List (Nat × Nat)} {c d : Nat × Nat → Nat} (h : Cls S c) (g : Cls S d) : ∀ k q, q ∈ S → c q = k → k ≤ d q := by
  intro k
  induction k with
  | zero => intro q _ _; exact Nat.zero_le _
  | succ k ih =>
    intro q hq hk
    obtain ⟨p, hp, h1, h2, h3⟩ := h.down q hq k hk
    have := ih p hp h3
    have := g.up p hp q hq h1 h2
    omega
theorem Cls.eq {S : List (Nat × Nat)} {c d : Nat × Nat → Nat} (h : Cls S c) (g : Cls S d) {q : Nat × Nat} (hq : q ∈ S) : c q = d q :=
  Nat.le_antisymm (h.le g _ q hq rfl) (g.le h _ q hq rfl)
theorem Cls.swap {S S' : List (Nat × Nat)} {c : Nat × Nat → Nat} (h : Cls S c) (hS : ∀ a b, (a, b) ∈ S ↔ (b, a) ∈ S') : Cls S' (fun p => c (p.2, p.1)) := by
  refine ⟨fun p hp q hq h1 h2 => h.up _ ((hS _ _).2 hp) _ ((hS _ _).2 hq) h2 h1, fun q hq k hk => ?_⟩
  obtain ⟨p, hp, h1, h2, h3⟩ := h.down _ ((hS _ _).2 hq) k hk
  exact ⟨(p.2, p.1), (hS _ _).1 hp, h2, h1, h3⟩

/-- The row's numbers are the least of their classes, its labels too; what is pushed out. -/
structure RowI (S : List (Nat × Nat)) (c : Nat × Nat → Nat) (r s : List Nat) (B : List (Nat × Nat)) : Prop where
  cls : Cls S c
  len : s.length = r.length
  asc : Asc r
  lt : ∀ p ∈ S, c p < r.length
  low : ∀ t, t < r.length → ∃ p ∈ S, c p = t ∧ p.2 = r.getD t 0 ∧ ∀ q ∈ S, c q = t → r.getD t 0 ≤ q.2 ∧ q.1 ≤ p.1
  fst : ∀ t, t < r.length → ∃ p ∈ S, c p = t ∧ p.1 = s.getD t 0 ∧ ∀ q ∈ S, c q = t → s.getD t 0 ≤ q.1
  out : ∀ a b, (a, b) ∈ B ↔ ∃ p ∈ S, ∃ q ∈ S, p.1 = a ∧ q.2 = b ∧ c p = c q ∧ q.1 < p.1 ∧ ∀ z ∈ S, c z = c p → z.1 ≤ q.1 ∨ p.1 ≤ z.1

theorem RowI.start (c : Nat × Nat → Nat) : RowI [] c [] [] [] := by
  refine ⟨⟨?_, ?_⟩, rfl, ?_, ?_, ?_, ?_, ?_⟩ <;> simp [Asc]

theorem RowI.step {M : List (Nat × Nat)} {c : Nat × Nat → Nat} {r s : List Nat} {B : List (Nat × Nat)} (h : RowI M c r s B) (x : Nat × Nat)
    (h1 : ∀ p ∈ M, p.1 < x.1) (h2 : ∀ p ∈ M, p.2 ≠ x.2) (hD : ∀ p ∈ M, ∀ q ∈ M, p.1 = q.1 → p = q) :
    RowI (M ++ [x]) (fun p => if p = x then pos x.2 r else c p) (if pos x.2 r = r.length then r ++ [x.2] else r.set (pos x.2 r) x.2) (if pos x.2 r = r.length then s ++ [x.1] else s)
      (if pos x.2 r = r.length then B else B ++ [(x.1, r.getD (pos x.2 r) 0)]) := by
  have hxM : x ∉ M := fun e => by have := h1 x e; omega
  have hne : ∀ p ∈ M, p ≠ x := fun p hp e => hxM (e ▸ hp)
  obtain ⟨k, hk⟩ : ∃ k, k = pos x.2 r := ⟨_, rfl⟩
  rw [← hk]
  have hkl : k ≤ r.length := by rw [hk]; exact pos_le _ _
  have hlo : ∀ i, i < k → r.getD i 0 ≤ x.2 := fun i hi => pos_lt _ _ _ (by omega)
  have hhi : ∀ i, k ≤ i → i < r.length → x.2 < r.getD i 0 := fun i h3 h4 => by
    have h5 := pos_at x.2 r (by omega)
    have h6 := h.asc.le i k h3 h4
    rw [← hk] at h5; omega
  obtain ⟨r', hr'⟩ : ∃ r', r' = (if k = r.length then r ++ [x.2] else r.set k x.2) := ⟨_, rfl⟩
  obtain ⟨s', hs'⟩ : ∃ s', s' = (if k = r.length then s ++ [x.1] else s) := ⟨_, rfl⟩
  have hrl : r'.length = if k = r.length then r.length + 1 else r.length := by rw [hr']; split <;> simp
  have hsl : s'.length = r'.length := by rw [hrl, hs']; split <;> simp [h.len]
  have hkr : k < r'.length := by rw [hrl]; split <;> omega
  have hrk : r'.getD k 0 = x.2 := by
    rw [hr']; split
    · next e => rw [getD_app, if_neg (by omega), if_pos e]
    · next e => rw [getD_set, if_pos ⟨rfl, by omega⟩]
  have hro : ∀ t, t < r'.length → t ≠ k → t < r.length ∧ r'.getD t 0 = r.getD t 0 := fun t ht hn => by
    rw [hrl] at ht
    have htl : t < r.length := by split at ht <;> omega
    refine ⟨htl, ?_⟩
    rw [hr']; split
    · rw [getD_app, if_pos htl]
    · rw [getD_set, if_neg (fun e => hn e.1.symm)]
  have hso : ∀ t, t < r.length → s'.getD t 0 = s.getD t 0 := fun t ht => by
    have := h.len
    rw [hs']; split
    · rw [getD_app, if_pos (by omega)]
    · rfl
  have hsk : k = r.length → s'.getD k 0 = x.1 := fun e => by
    have := h.len
    rw [hs', if_pos e, getD_app, if_neg (by omega), if_pos (by omega)]
  rw [← hr', ← hs']
  have hcM : ∀ p ∈ M, (if p = x then k else c p) = c p := fun p hp => if_neg (hne p hp)
  have hcx : (if x = x then k else c x) = k := if_pos rfl
  have hmem : ∀ p, p ∈ M ++ [x] ↔ p ∈ M ∨ p = x := fun p => by simp
  refine ⟨⟨fun p hp q hq h3 h4 => ?_, fun q hq j hj => ?_⟩, hsl, ?_, fun p hp => ?_, fun t ht => ?_, fun t ht => ?_, fun a b => ?_⟩
  · rcases (hmem p).1 hp with hpM | rfl
    · rcases (hmem q).1 hq with hqM | rfl
      · replace hp := hpM
        replace hq := hqM
        show (if p = x then k else c p) < (if q = x then k else c q)
        rw [hcM p hp, hcM q hq]; exact h.cls.up p hp q hq h3 h4
      · replace hp := hpM
        show (if p = q then k else c p) < (if q = q then k else c q)
        rw [hcM p hp, hcx]
        have h5 := h.lt p hp
        obtain ⟨_, _, _, _, h6⟩ := h.low _ h5
        have h7 := (h6 p hp rfl).1
        rcases Nat.lt_or_ge (c p) k with h8 | h8
        · exact h8
        · have := hhi _ h8 h5; omega
    · rcases (hmem q).1 hq with hq | rfl
      · have := h1 q hq; omega
      · omega
  · rcases (hmem q).1 hq with hq | rfl
    · have hj' : c q = j + 1 := by rw [← hj]; exact (hcM q hq).symm
      obtain ⟨p, hp, h3, h4, h5⟩ := h.cls.down q hq j hj'
      exact ⟨p, (hmem p).2 (.inl hp), h3, h4, (hcM p hp).trans h5⟩
    · have hj' : k = j + 1 := by rw [← hj]; exact hcx.symm
      obtain ⟨p, hp, h3, h4, _⟩ := h.low j (by omega)
      have h5 := hlo j (by omega)
      have h6 := h2 p hp
      exact ⟨p, (hmem p).2 (.inl hp), h1 p hp, by omega, (hcM p hp).trans h3⟩
  · rw [hr']; split
    · next e => exact h.asc.app (hk.symm.trans e)
    · next e => rw [hk]; exact h.asc.put (by omega)
  · rcases (hmem p).1 hp with hp | rfl
    · show (if p = x then k else c p) < _
      rw [hcM p hp, hrl]
      have := h.lt p hp
      split <;> omega
    · show (if p = p then k else c p) < _
      rw [hcx]; exact hkr
  · by_cases e : t = k
    · subst e
      refine ⟨x, (hmem x).2 (.inr rfl), hcx, hrk.symm, fun q hq hqt => ?_⟩
      rcases (hmem q).1 hq with hq | rfl
      · have hqt' : c q = t := (hcM q hq).symm.trans hqt
        have h5 := h.lt q hq
        obtain ⟨_, _, _, _, h6⟩ := h.low _ h5
        have h7 := (h6 q hq rfl).1
        have h8 := hhi t (Nat.le_refl _) (by omega)
        rw [hqt'] at h7
        exact ⟨by rw [hrk]; omega, Nat.le_of_lt (h1 q hq)⟩
      · exact ⟨Nat.le_of_eq hrk, Nat.le_refl _⟩
    · obtain ⟨h3, h4⟩ := hro t ht e
      obtain ⟨p, hp, h5, h6, h7⟩ := h.low t h3
      refine ⟨p, (hmem p).2 (.inl hp), (hcM p hp).trans h5, by rw [h4]; exact h6, fun q hq hqt => ?_⟩
      rcases (hmem q).1 hq with hq | rfl
      · rw [h4]; exact h7 q hq ((hcM q hq).symm.trans hqt)
      · exact absurd (hqt.symm.trans hcx) e
  · by_cases e : t = k
    · subst e
      by_cases e2 : t = r.length
      · refine ⟨x, (hmem x).2 (.inr rfl), hcx, (hsk e2).symm, fun q hq hqt => ?_⟩
        rcases (hmem q).1 hq with hq | rfl
        · have hqt' : c q = t := (hcM q hq).symm.trans hqt
          have := h.lt q hq; omega
        · exact Nat.le_of_eq (hsk e2)
      · obtain ⟨p, hp, h5, h6, h7⟩ := h.fst t (by omega)
        refine ⟨p, (hmem p).2 (.inl hp), (hcM p hp).trans h5, by rw [hso t (by omega)]; exact h6, fun q hq hqt => ?_⟩
        rw [hso t (by omega)]
        rcases (hmem q).1 hq with hq | rfl
        · exact h7 q hq ((hcM q hq).symm.trans hqt)
        · have := h1 p hp; omega
    · obtain ⟨h3, h4⟩ := hro t ht e
      obtain ⟨p, hp, h5, h6, h7⟩ := h.fst t h3
      refine ⟨p, (hmem p).2 (.inl hp), (hcM p hp).trans h5, by rw [hso t h3]; exact h6, fun q hq hqt => ?_⟩
      rcases (hmem q).1 hq with hq | rfl
      · rw [hso t h3]; exact h7 q hq ((hcM q hq).symm.trans hqt)
      · exact absurd (hqt.symm.trans hcx) e
  · have hold : (a, b) ∈ B ↔ ∃ p ∈ M, ∃ q ∈ M ++ [x], p.1 = a ∧ q.2 = b ∧ (if p = x then k else c p) = (if q = x then k else c q) ∧ q.1 < p.1 ∧ ∀ z ∈ M ++ [x], (if z = x then k else c z) = (if p = x then k else c p) → z.1 ≤ q.1 ∨ p.1 ≤ z.1 := by
      rw [h.out]
      constructor
      · rintro ⟨p, hp, q, hq, e1, e2, e3, e4, e5⟩
        refine ⟨p, hp, q, (hmem q).2 (.inl hq), e1, e2, by rw [hcM p hp, hcM q hq]; exact e3, e4, fun z hz hzc => ?_⟩
        rcases (hmem z).1 hz with hz | rfl
        · rw [hcM p hp, hcM z hz] at hzc; exact e5 z hz hzc
        · exact .inr (Nat.le_of_lt (h1 p hp))
      · rintro ⟨p, hp, q, hq, e1, e2, e3, e4, e5⟩
        rcases (hmem q).1 hq with hq | rfl
        · refine ⟨p, hp, q, hq, e1, e2, by rw [hcM p hp, hcM q hq] at e3; exact e3, e4, fun z hz hzc => e5 z ((hmem z).2 (.inl hz)) ?_⟩
          rw [hcM p hp, hcM z hz]; exact hzc
        · have := h1 p hp; omega
    have hnew : (∃ q ∈ M ++ [x], x.1 = a ∧ q.2 = b ∧ (if x = x then k else c x) = (if q = x then k else c q) ∧ q.1 < x.1 ∧ ∀ z ∈ M ++ [x], (if z = x then k else c z) = (if x = x then k else c x) → z.1 ≤ q.1 ∨ x.1 ≤ z.1) ↔ k ≠ r.length ∧ a = x.1 ∧ b = r.getD k 0 := by
      constructor
      · rintro ⟨q, hq, e1, e2, e3, e4, e5⟩
        rcases (hmem q).1 hq with hq | rfl
        · rw [hcx, hcM q hq] at e3
          have hql := h.lt q hq
          obtain ⟨p, hp, g1, g2, g3⟩ := h.low k (by omega)
          have g4 := (g3 q hq e3.symm).2
          have g5 := e5 p ((hmem p).2 (.inl hp)) (by rw [hcM p hp, hcx]; exact g1)
          have g6 := h1 p hp
          have g7 : p = q := hD p hp q hq (by omega)
          exact ⟨by omega, e1.symm, by rw [← e2, ← g7]; exact g2⟩
        · omega
      · rintro ⟨e1, rfl, rfl⟩
        obtain ⟨p, hp, g1, g2, g3⟩ := h.low k (by omega)
        refine ⟨p, (hmem p).2 (.inl hp), rfl, g2, by rw [hcx, hcM p hp]; exact g1.symm, h1 p hp, fun z hz hzc => ?_⟩
        rcases (hmem z).1 hz with hz | rfl
        · rw [hcM z hz, hcx] at hzc; exact .inl (g3 z hz hzc).2
        · exact .inr (Nat.le_refl _)
    have hgoal : (a, b) ∈ (if k = r.length then B else B ++ [(x.1, r.getD k 0)]) ↔ (a, b) ∈ B ∨ (k ≠ r.length ∧ a = x.1 ∧ b = r.getD k 0) := by
      split
      · next e => simp [e]
      · next e => simp [e]
    rw [hgoal, hold, ← hnew]
    constructor
    · rintro (⟨p, hp, q, hq⟩ | ⟨q, hq⟩)
      · exact ⟨p, (hmem p).2 (.inl hp), q, hq⟩
      · exact ⟨x, (hmem x).2 (.inr rfl), q, hq⟩
    · rintro ⟨p, hp, q, hq⟩
      rcases (hmem p).1 hp with hp | rfl
      · exact .inl ⟨p, hp, q, hq⟩
      · exact .inr ⟨q, hq⟩

/-- Pairs in the order of their first numbers, no second one twice. -/
structure Srt (L : List (Nat × Nat)) : Prop where
  inc : L.Pairwise fun p q => p.1 < q.1
  dis : ∀ p ∈ L, ∀ q ∈ L, p.2 = q.2 → p = q
theorem inc_eq {L : List (Nat × Nat)} (h : L.Pairwise fun p q => p.1 < q.1) : ∀ p ∈ L, ∀ q ∈ L, p.1 = q.1 → p = q := by
  induction L with
  | nil => intro p hp; simp at hp
  | cons x L ih =>
    rw [List.pairwise_cons] at h
    intro p hp q hq e
    rcases List.mem_cons.1 hp with h1 | h1
    · rcases List.mem_cons.1 hq with h2 | h2
      · rw [h1, h2]
      · have := h.1 q h2; rw [h1] at e; omega
    · rcases List.mem_cons.1 hq with h2 | h2
      · have := h.1 p h1; rw [h2] at e; omega
      · exact ih h.2 p h1 q h2 e

theorem rowGo_is : ∀ (L M : List (Nat × Nat)) (c : Nat × Nat → Nat) (r s : List Nat) (B : List (Nat × Nat)), RowI M c r s B → Srt (M ++ L) →
    ∃ c', RowI (M ++ L) c' (rowGo r s L).1 (rowGo r s L).2.1 (B ++ (rowGo r s L).2.2)
  | [], M, c, r, s, B, h, _ => ⟨c, by simpa [rowGo] using h⟩
  | x :: L, M, c, r, s, B, h, hS => by
    have hp := List.pairwise_append.1 hS.inc
    have h1 : ∀ p ∈ M, p.1 < x.1 := fun p hpm => hp.2.2 p hpm x (by simp)
    have h2 : ∀ p ∈ M, p.2 ≠ x.2 := fun p hpm e => by
      have := hS.dis p (by simp [hpm]) x (by simp) e
      have := h1 p hpm
      simp_all
    have h3 : ∀ p ∈ M, ∀ q ∈ M, p.1 = q.1 → p = q := inc_eq hp.1
    have h4 := h.step x h1 h2 h3
    have hS2 : Srt (M ++ [x] ++ L) := by simpa using hS
    obtain ⟨c', h5⟩ := rowGo_is L (M ++ [x]) _ _ _ _ h4 hS2
    refine ⟨c', ?_⟩
    rw [show M ++ x :: L = M ++ [x] ++ L by simp]
    by_cases e : pos x.2 r = r.length
    · simp only [if_pos e] at h5
      simp only [rowGo, if_pos e]
      exact h5
    · simp only [if_neg e] at h5
      simp only [rowGo, if_neg e]
      simpa using h5

theorem rowGo_fst : ∀ (L : List (Nat × Nat)) (r s : List Nat), ((rowGo r s L).2.2.map Prod.fst).Sublist (L.map Prod.fst)
  | [], r, s => by simp [rowGo]
  | x :: L, r, s => by
    rw [rowGo]
    split
    · exact (rowGo_fst L _ _).cons _
    · exact (rowGo_fst L _ _).cons_cons _
theorem rowGo_inc {L : List (Nat × Nat)} (h : L.Pairwise fun p q => p.1 < q.1) (r s : List Nat) : (rowGo r s L).2.2.Pairwise fun p q => p.1 < q.1 := by
  have h1 : (L.map Prod.fst).Pairwise (· < ·) := List.pairwise_map.2 h
  exact List.pairwise_map.1 (h1.sublist (rowGo_fst L r s))
theorem rowGo_len (x : Nat × Nat) (L : List (Nat × Nat)) : (rowGo [] [] (x :: L)).2.2.length ≤ L.length := by
  have := (rowGo_fst L [x.2] [x.1]).length_le
  simpa [rowGo, pos] using this

/-- The rows of the pairs, taken the other way round, are the same, swapped. -/
theorem run_swap : ∀ (n : Nat) (L L' : List (Nat × Nat)), L.length ≤ n → L.Pairwise (fun p q => p.1 < q.1) → L'.Pairwise (fun p q => p.1 < q.1) → (∀ a b, (a, b) ∈ L ↔ (b, a) ∈ L') →
    run ([], []) L' = ((run ([], []) L).2, (run ([], []) L).1)
  | n, [], L', _, _, _, hS => by
    have : L' = [] := List.eq_nil_iff_forall_not_mem.2 fun ⟨a, b⟩ h => by simpa using (hS b a).2 h
    rw [this]; rfl
  | 0, x :: L, L', hl, _, _, _ => by simp at hl
  | n + 1, x :: L, L', hl, hi, hi', hS => by
    have hd : ∀ p ∈ (x :: L), ∀ q ∈ (x :: L), p.2 = q.2 → p = q := fun p hp q hq e => by
      have := inc_eq hi' _ ((hS p.1 p.2).1 hp) _ ((hS q.1 q.2).1 hq) e
      simp at this
      exact Prod.ext this.2 this.1
    have hd' : ∀ p ∈ L', ∀ q ∈ L', p.2 = q.2 → p = q := fun p hp q hq e => by
      have := inc_eq hi _ ((hS p.2 p.1).2 hp) _ ((hS q.2 q.1).2 hq) e
      simp at this
      exact Prod.ext this.2 this.1
    cases L' with
    | nil => have := (hS x.1 x.2).1 (by simp); simp at this
    | cons y L' =>
    obtain ⟨c, h⟩ := rowGo_is (x :: L) [] (fun _ => 0) [] [] [] (RowI.start _) ⟨by simpa using hi, by simpa using hd⟩
    obtain ⟨d, g⟩ := rowGo_is (y :: L') [] (fun _ => 0) [] [] [] (RowI.start _) ⟨by simpa using hi', by simpa using hd'⟩
    rw [List.nil_append, List.nil_append] at h g
    rw [run_nil, run_nil]
    obtain ⟨r, hr⟩ : ∃ r, r = (rowGo [] [] (x :: L)).1 := ⟨_, rfl⟩
    obtain ⟨s, hs⟩ : ∃ s, s = (rowGo [] [] (x :: L)).2.1 := ⟨_, rfl⟩
    obtain ⟨B, hB⟩ : ∃ B, B = (rowGo [] [] (x :: L)).2.2 := ⟨_, rfl⟩
    obtain ⟨r', hr'⟩ : ∃ r, r = (rowGo [] [] (y :: L')).1 := ⟨_, rfl⟩
    obtain ⟨s', hs'⟩ : ∃ s, s = (rowGo [] [] (y :: L')).2.1 := ⟨_, rfl⟩
    obtain ⟨B', hB'⟩ : ∃ B, B = (rowGo [] [] (y :: L')).2.2 := ⟨_, rfl⟩
    have hBi : B.Pairwise fun p q => p.1 < q.1 := by rw [hB]; exact rowGo_inc hi _ _
    have hBi' : B'.Pairwise fun p q => p.1 < q.1 := by rw [hB']; exact rowGo_inc hi' _ _
    have hBl : B.length ≤ n := by rw [hB]; have := rowGo_len x L; simp at hl; omega
    rw [← hr, ← hs, ← hB] at h ⊢
    rw [← hr', ← hs', ← hB'] at g ⊢
    have hc : ∀ p ∈ (y :: L'), d p = c (p.2, p.1) := fun p hp => g.cls.eq (h.cls.swap hS) hp
    have hc2 : ∀ p ∈ (x :: L), c p = d (p.2, p.1) := fun p hp => (hc (p.2, p.1) ((hS _ _).1 hp)).symm
    -- as many classes
    have hlen : r'.length = r.length := by
      refine Nat.le_antisymm (Nat.le_of_not_lt fun e => ?_) (Nat.le_of_not_lt fun e => ?_)
      · obtain ⟨p, hp, h1, _⟩ := g.low r.length e
        have := h.lt _ ((hS p.2 p.1).2 hp)
        rw [hc p hp] at h1; omega
      · obtain ⟨p, hp, h1, _⟩ := h.low r'.length e
        have := g.lt _ ((hS p.1 p.2).1 hp)
        rw [hc2 p hp] at h1; omega
    have hE1 : r' = s := by
      refine Qext (by rw [hlen, h.len]) fun t ht => ?_
      obtain ⟨p, hp, p1, p2, p3⟩ := g.low t ht
      obtain ⟨q, hq, q1, q2, q3⟩ := h.fst t (by omega)
      have e1 := (p3 _ ((hS q.1 q.2).1 hq) (by rw [← hc2 q hq]; exact q1)).1
      have e2 := q3 _ ((hS p.2 p.1).2 hp) (by rw [← hc p hp]; exact p1)
      try simp only at e1 e2
      omega
    have hE2 : s' = r := by
      refine Qext (by rw [g.len, hlen]) fun t ht => ?_
      rw [g.len] at ht
      obtain ⟨p, hp, p1, p2, p3⟩ := g.fst t ht
      obtain ⟨q, hq, q1, q2, q3⟩ := h.low t (by omega)
      have e1 := p3 _ ((hS q.1 q.2).1 hq) (by rw [← hc2 q hq]; exact q1)
      have e2 := (q3 _ ((hS p.2 p.1).2 hp) (by rw [← hc p hp]; exact p1)).1
      try simp only at e1 e2
      omega
    have hBS : ∀ a b, (a, b) ∈ B ↔ (b, a) ∈ B' := by
      intro a b
      have h9 := h.out a b
      have g9 := g.out b a
      rw [h9, g9]
      constructor
      · rintro ⟨p, hp, q, hq, e1, e2, e3, e4, e5⟩
        have hpq : p.2 < q.2 := by
          rcases Nat.lt_trichotomy p.2 q.2 with e | e | e
          · exact e
          · have := hd p hp q hq e; subst this; omega
          · have := h.cls.up q hq p hp e4 e; omega
        refine ⟨(q.2, q.1), (hS _ _).1 hq, (p.2, p.1), (hS _ _).1 hp, e2, e1, by rw [← hc2 q hq, ← hc2 p hp, e3], hpq, fun z hz hzc => ?_⟩
        have hzc' : c (z.2, z.1) = c p := by rw [← hc z hz, hzc, ← hc2 q hq, e3]
        have hz' := (hS z.2 z.1).2 hz
        rcases e5 _ hz' hzc' with e6 | e6
        · right
          show q.2 ≤ z.1
          rcases Nat.lt_or_ge z.1 q.2 with e7 | e7
          · rcases Nat.lt_or_ge z.2 q.1 with e8 | e8
            · have := h.cls.up _ hz' q hq e8 e7; omega
            · have e9 : (z.2, z.1) = q := inc_eq hi _ hz' q hq (by simp at e6 ⊢; omega)
              rw [← e9] at e7; simp at e7
          · exact e7
        · left
          show z.1 ≤ p.2
          rcases Nat.lt_or_ge p.2 z.1 with e7 | e7
          · rcases Nat.lt_or_ge p.1 z.2 with e8 | e8
            · have := h.cls.up p hp _ hz' e8 e7; omega
            · have e9 : (z.2, z.1) = p := inc_eq hi _ hz' p hp (by simp at e6 ⊢; omega)
              rw [← e9] at e7; simp at e7
          · exact e7
      · rintro ⟨p, hp, q, hq, e1, e2, e3, e4, e5⟩
        have hpq : p.2 < q.2 := by
          rcases Nat.lt_trichotomy p.2 q.2 with e | e | e
          · exact e
          · have := hd' p hp q hq e; subst this; omega
          · have := g.cls.up q hq p hp e4 e; omega
        refine ⟨(q.2, q.1), (hS _ _).2 hq, (p.2, p.1), (hS _ _).2 hp, e2, e1, by rw [← hc q hq, ← hc p hp, e3], hpq, fun z hz hzc => ?_⟩
        have hzc' : d (z.2, z.1) = d p := by rw [← hc2 z hz, hzc, ← hc q hq, e3]
        have hz' := (hS z.1 z.2).1 hz
        rcases e5 _ hz' hzc' with e6 | e6
        · right
          show q.2 ≤ z.1
          rcases Nat.lt_or_ge z.1 q.2 with e7 | e7
          · rcases Nat.lt_or_ge z.2 q.1 with e8 | e8
            · have := g.cls.up _ hz' q hq e8 e7; omega
            · have e9 : (z.2, z.1) = q := inc_eq hi' _ hz' q hq (by simp at e6 ⊢; omega)
              rw [← e9] at e7; simp at e7
          · exact e7
        · left
          show z.1 ≤ p.2
          rcases Nat.lt_or_ge p.2 z.1 with e7 | e7
          · rcases Nat.lt_or_ge p.1 z.2 with e8 | e8
            · have := g.cls.up p hp _ hz' e8 e7; omega
            · have e9 : (z.2, z.1) = p := inc_eq hi' _ hz' p hp (by simp at e6 ⊢; omega)
              rw [← e9] at e7; simp at e7
          · exact e7
    rw [run_swap n B B' hBl hBi hBi' hBS, hE1, hE2]

/-- A word's pairs: places from 1 on, and numbers. -/
def prs : Nat → List Nat → List (Nat × Nat)
  | _, [] => []
  | k, x :: F => (k, x) :: prs (k + 1) F
theorem prs_append : ∀ (F : List Nat) (k x : Nat), prs k (F ++ [x]) = prs k F ++ [(k + F.length, x)]
  | [], k, x => rfl
  | y :: F, k, x => by
    show (k, y) :: prs (k + 1) (F ++ [x]) = (k, y) :: (prs (k + 1) F ++ _)
    rw [prs_append F (k + 1) x]
    simp; omega
theorem pair_run (F : List Nat) : ∀ i, i ≤ F.length → pair F i = run ([], []) (prs 1 (F.take i))
  | 0, _ => by simp [pair, prs, run]
  | i + 1, h => by
    rw [List.take_succ_eq_append_getElem (by omega), prs_append, pair, pair_run F i (by omega)]
    unfold run
    rw [List.foldl_append]
    simp only [List.foldl_cons, List.foldl_nil, List.length_take]
    rw [Nat.min_eq_left (by omega), show F.getD i 0 = F[i] by simp [List.getD, show i < F.length by omega], show 1 + i = i + 1 by omega]
theorem prs_mem : ∀ (F : List Nat) (k a b : Nat), (a, b) ∈ prs k F ↔ k ≤ a ∧ a < k + F.length ∧ F.getD (a - k) 0 = b
  | [], k, a, b => by simp [prs]; omega
  | x :: F, k, a, b => by
    show (a, b) ∈ (k, x) :: prs (k + 1) F ↔ _
    rw [List.mem_cons, prs_mem F (k + 1) a b]
    constructor
    · rintro (h | ⟨h1, h2, h3⟩)
      · injection h with h1 h2
        subst h1 h2
        simp
      · refine ⟨by omega, by simp; omega, ?_⟩
        rw [show a - k = (a - (k + 1)) + 1 by omega, List.getD_cons_succ]; exact h3
    · rintro ⟨h1, h2, h3⟩
      by_cases e : a = k
      · left
        subst e
        simp at h3
        rw [h3]
      · right
        refine ⟨by omega, by simp at h2; omega, ?_⟩
        rw [show a - k = (a - (k + 1)) + 1 by omega, List.getD_cons_succ] at h3; exact h3
theorem prs_inc : ∀ (F : List Nat) (k : Nat), (prs k F).Pairwise fun p q => p.1 < q.1
  | [], k => List.Pairwise.nil
  | x :: F, k => by
    show ((k, x) :: prs (k + 1) F).Pairwise _
    rw [List.pairwise_cons]
    refine ⟨fun ⟨a, b⟩ h => ?_, prs_inc F (k + 1)⟩
    have := (prs_mem F (k + 1) a b).1 h
    show k < a
    omega

/-- Two lists of numbers of which each says where the other's numbers are. -/
structure Inv (F G : List Nat) : Prop where
  len : G.length = F.length
  a : ∀ i, i < F.length → 1 ≤ F.getD i 0 ∧ F.getD i 0 ≤ F.length ∧ G.getD (F.getD i 0 - 1) 0 = i + 1
  b : ∀ i, i < F.length → 1 ≤ G.getD i 0 ∧ G.getD i 0 ≤ F.length ∧ F.getD (G.getD i 0 - 1) 0 = i + 1

theorem Inv.mem {F G : List Nat} (h : Inv F G) (x y : Nat) : (x, y) ∈ prs 1 F ↔ (y, x) ∈ prs 1 G := by
  rw [prs_mem, prs_mem]
  have hl := h.len
  constructor
  · rintro ⟨h1, h2, h3⟩
    obtain ⟨h4, h5, h6⟩ := h.a (x - 1) (by omega)
    rw [h3] at h4 h5 h6
    exact ⟨h4, by omega, by omega⟩
  · rintro ⟨h1, h2, h3⟩
    obtain ⟨h4, h5, h6⟩ := h.b (y - 1) (by omega)
    rw [h3] at h4 h5 h6
    exact ⟨h4, by omega, by omega⟩

theorem pair_swap {F G : List Nat} (h : Inv F G) : pair G G.length = ((pair F F.length).2, (pair F F.length).1) := by
  rw [pair_run F F.length (Nat.le_refl _), pair_run G G.length (Nat.le_refl _), List.take_length, List.take_length]
  exact run_swap _ _ _ (Nat.le_refl _) (prs_inc F 1) (prs_inc G 1) h.mem

/-- How many numbers below m are as b says. -/
def cnt (b : Nat → Bool) : Nat → Nat
  | 0 => 0
  | m + 1 => cnt b m + (if b m then 1 else 0)
theorem cnt_le (b : Nat → Bool) : ∀ m, cnt b m ≤ m
  | 0 => Nat.le_refl _
  | m + 1 => by have := cnt_le b m; rw [cnt]; split <;> omega
theorem cnt_lt (b : Nat → Bool) (j : Nat) (hj : b j = false) : ∀ m, j < m → cnt b m < m
  | m + 1, h => by
    rw [cnt]
    by_cases e : j = m
    · subst e; have := cnt_le b j; rw [hj]; simp; omega
    · have := cnt_lt b j hj m (by omega); split <;> omega
theorem cnt_mono {b d : Nat → Bool} : ∀ m, (∀ k, k < m → b k = true → d k = true) → cnt b m ≤ cnt d m
  | 0, _ => Nat.le_refl _
  | m + 1, h => by
    have h1 := cnt_mono m fun k hk => h k (by omega)
    have h2 := h m (by omega)
    rw [cnt, cnt]
    by_cases e : b m = true
    · rw [if_pos e, if_pos (h2 e)]; omega
    · rw [if_neg e]; omega
theorem cnt_mono_lt {b d : Nat → Bool} {j : Nat} (hb : b j = false) (hd : d j = true) : ∀ m, j < m → (∀ k, k < m → b k = true → d k = true) → cnt b m < cnt d m
  | m + 1, hj, h => by
    have h2 := h m (by omega)
    rw [cnt, cnt]
    by_cases e : j = m
    · subst e
      have h1 := cnt_mono j fun k hk => h k (by omega)
      rw [if_neg (by rw [hb]; simp), if_pos hd]; omega
    · have h1 := cnt_mono_lt hb hd m (by omega) fun k hk => h k (by omega)
      by_cases e : b m = true
      · rw [if_pos e, if_pos (h2 e)]; omega
      · rw [if_neg e]; omega

/-- Whether the number at k comes before the number at i. -/
def bef (F : List Nat) (i k : Nat) : Bool := decide (F.getD k 0 < F.getD i 0) || (decide (F.getD k 0 = F.getD i 0) && decide (k < i))
theorem bef_iff (F : List Nat) (i k : Nat) : bef F i k = true ↔ F.getD k 0 < F.getD i 0 ∨ (F.getD k 0 = F.getD i 0 ∧ k < i) := by simp [bef]
theorem bef_self (F : List Nat) (i : Nat) : bef F i i = false := by simp [bef]
def rk (F : List Nat) (i : Nat) : Nat := 1 + cnt (bef F i) F.length
theorem rk_le (F : List Nat) (i : Nat) (h : i < F.length) : 1 ≤ rk F i ∧ rk F i ≤ F.length := by
  have := cnt_lt (bef F i) i (bef_self F i) F.length h
  unfold rk; omega
theorem rk_lt (F : List Nat) {i j : Nat} (hi : i < F.length) (h : bef F j i = true) : rk F i < rk F j := by
  have := cnt_mono_lt (b := bef F i) (d := bef F j) (bef_self F i) h F.length hi fun k _ hk => by
    rw [bef_iff] at h hk ⊢; omega
  unfold rk; omega
theorem rk_inj (F : List Nat) {i j : Nat} (hi : i < F.length) (hj : j < F.length) (h : rk F i = rk F j) : i = j := by
  rcases Nat.lt_trichotomy i j with e | e | e
  · rcases Nat.lt_or_ge (F.getD j 0) (F.getD i 0) with h1 | h1
    · have := rk_lt F hj (i := j) (j := i) ((bef_iff F i j).2 (.inl h1)); omega
    · have := rk_lt F hi (i := i) (j := j) ((bef_iff F j i).2 (by omega)); omega
  · exact e
  · rcases Nat.lt_or_ge (F.getD i 0) (F.getD j 0) with h1 | h1
    · have := rk_lt F hi (i := i) (j := j) ((bef_iff F j i).2 (.inl h1)); omega
    · have := rk_lt F hj (i := j) (j := i) ((bef_iff F i j).2 (by omega)); omega

theorem pigeon : ∀ (n : Nat) (f : Nat → Nat), (∀ i, i < n → f i < n) → (∀ i j, i < n → j < n → f i = f j → i = j) → ∀ y, y < n → ∃ i, i < n ∧ f i = y
  | 0, f, _, _, y, hy => by omega
  | n + 1, f, h1, h2, y, hy => by
    have hg := pigeon n (fun i => if f i = n then f n else f i) (fun i hi => by
      show (if f i = n then f n else f i) < n
      have := h1 i (by omega)
      have := h1 n (by omega)
      split
      · next e => have := h2 i n (by omega) (by omega); omega
      · omega) (fun i j hi hj e => by
        have e' : (if f i = n then f n else f i) = (if f j = n then f n else f j) := e
        have a1 := h2 i j (by omega) (by omega)
        have a2 := h2 i n (by omega) (by omega)
        have a3 := h2 n j (by omega) (by omega)
        split at e' <;> split at e' <;> omega)
    by_cases e : y = f n
    · exact ⟨n, by omega, e.symm⟩
    · by_cases ey : y = n
      · -- the greatest is somewhere
        by_cases en : f n < n
        · obtain ⟨i, hi, hfi⟩ := hg (f n) en
          have hfi' : (if f i = n then f n else f i) = f n := hfi
          split at hfi'
          · next e3 => exact ⟨i, by omega, by omega⟩
          · next e3 => have := h2 i n (by omega) (by omega) hfi'; omega
        · have := h1 n (by omega); omega
      · obtain ⟨i, hi, hfi⟩ := hg y (by omega)
        have hfi' : (if f i = n then f n else f i) = y := hfi
        split at hfi'
        · omega
        · exact ⟨i, by omega, hfi'⟩

/-- The permutation of a list; where its numbers are. -/
def perm (F : List Nat) : List Nat := (List.range F.length).map (rk F)
theorem perm_length (F : List Nat) : (perm F).length = F.length := by simp [perm]
theorem perm_get (F : List Nat) {i : Nat} (h : i < F.length) : (perm F).getD i 0 = rk F i := by simp [perm, List.getD, h]
def place (P : List Nat) : Nat → List Nat
  | 0 => List.replicate P.length 0
  | i + 1 => (place P i).set (P.getD i 0 - 1) (i + 1)
theorem place_length (P : List Nat) : ∀ i, (place P i).length = P.length
  | 0 => by simp [place]
  | i + 1 => by rw [place, List.length_set]; exact place_length P i
theorem place_get (P : List Nat) (h1 : ∀ i, i < P.length → 1 ≤ P.getD i 0 ∧ P.getD i 0 ≤ P.length) (h2 : ∀ i j, i < P.length → j < P.length → P.getD i 0 = P.getD j 0 → i = j) : ∀ i, i ≤ P.length → ∀ j, j < i → (place P i).getD (P.getD j 0 - 1) 0 = j + 1
  | i + 1, hi, j, hj => by
    rw [place, getD_set, place_length]
    have a1 := h1 i (by omega)
    have a2 := h1 j (by omega)
    by_cases e : j = i
    · subst e; rw [if_pos ⟨rfl, by omega⟩]
    · rw [if_neg (fun e2 => e (h2 j i (by omega) (by omega) (by omega)))]
      exact place_get P h1 h2 i (by omega) j (by omega)
theorem place_inv (P : List Nat) (h1 : ∀ i, i < P.length → 1 ≤ P.getD i 0 ∧ P.getD i 0 ≤ P.length) (h2 : ∀ i j, i < P.length → j < P.length → P.getD i 0 = P.getD j 0 → i = j) : Inv P (place P P.length) := by
  refine ⟨place_length _ _, fun i hi => ⟨(h1 i hi).1, (h1 i hi).2, place_get P h1 h2 _ (Nat.le_refl _) i hi⟩, fun y hy => ?_⟩
  obtain ⟨i, hi, e⟩ := pigeon P.length (fun i => P.getD i 0 - 1) (fun i hi => by have := h1 i hi; show P.getD i 0 - 1 < _; omega) (fun i j hi hj e => h2 i j hi hj (by
    have e' : P.getD i 0 - 1 = P.getD j 0 - 1 := e
    have := h1 i hi; have := h1 j hj; omega)) y hy
  have e' : P.getD i 0 - 1 = y := e
  have h3 := place_get P h1 h2 _ (Nat.le_refl _) i hi
  have h4 := h1 i hi
  rw [e'] at h3
  rw [h3]
  exact ⟨by omega, by omega, by show P.getD i 0 = y + 1; omega⟩
theorem perm_ok (F : List Nat) : (∀ i, i < (perm F).length → 1 ≤ (perm F).getD i 0 ∧ (perm F).getD i 0 ≤ (perm F).length) ∧ ∀ i j, i < (perm F).length → j < (perm F).length → (perm F).getD i 0 = (perm F).getD j 0 → i = j := by
  rw [perm_length]
  refine ⟨fun i hi => by rw [perm_get F hi]; exact rk_le F i hi, fun i j hi hj e => ?_⟩
  rw [perm_get F hi, perm_get F hj] at e
  exact rk_inj F hi hj e
end T
end Go.Proofs.Ytapidabhdbjnmaa
