/- The list of primes that grows while it is walked. Nothing here speaks of the program's text. -/
import Derived.Test.YtldfbadcigdbkaaDec
namespace Go.Proofs.Ytldfbadcigdbkaa

structure TSt (p : Nat) (T : List Nat) (i : Nat) (Es : List M.Ent) : Prop where
  nd : T.Nodup
  pr : ∀ t ∈ T, M.Pr t ∧ t ≤ p
  head : p ∈ T
  len : Es.length = i
  le : i ≤ T.length
  ents : ∀ j (h : j < Es.length) (h2 : j < T.length), IsEnt Es[j] ∧ Es[j].P = (T[j] : Int)
  closed : ∀ E ∈ Es, ∀ q ∈ E.F, ∃ t ∈ T, (t : Int) = q
  pot : 2 ^ i * wts (T.drop i) ≤ p * p

theorem TSt.start {p : Nat} (hp : M.Pr p) : TSt p [p] 0 [] := by
  have h2 := hp.1
  refine ⟨by simp, fun t ht => by simp at ht; subst ht; exact ⟨hp, Nat.le_refl _⟩, by simp, rfl, by simp, fun j h => by simp at h, by simp, ?_⟩
  have h3 : wt p ≤ p * p := by
    unfold wt; split
    · rename_i h; subst h; omega
    · exact Nat.le_refl _
  simpa [wts] using h3

theorem TSt.bound {p i : Nat} {T : List Nat} {Es : List M.Ent} (h : TSt p T i Es) (hp : p ≤ 2147483647) : T.length ≤ 62 := by
  have h1 := wts_pow (l := T.drop i) (fun x hx => (h.pr x (List.mem_of_mem_drop hx)).1.1)
  have h2 : 2 ^ i * 2 ^ (T.drop i).length ≤ p * p := Nat.le_trans (Nat.mul_le_mul_left _ h1) h.pot
  rw [← Nat.pow_add, List.length_drop, show i + (T.length - i) = T.length by have := h.le; omega] at h2
  have h3 : p * p ≤ 2147483647 * 2147483647 := Nat.mul_le_mul hp hp
  rcases Nat.lt_or_ge T.length 63 with h4 | h4
  · omega
  · have := Nat.pow_le_pow_right (show 0 < 2 by omega) h4
    omega

theorem TSt.step {p i : Nat} {T N : List Nat} {Es : List M.Ent} {E : M.Ent} {t G : Nat} {L : List (Nat × Nat)} (h : TSt p T i Es) (hi : i < T.length) (ht : t = T[i]) (hE : PrEnt E t G L)
    (hN : N.Sublist (L.map (·.1))) (hnd : (T ++ N).Nodup) (hall : ∀ q ∈ L.map (·.1), q ∈ T ++ N) : TSt p (T ++ N) (i + 1) (Es ++ [E]) := by
  have htm : t ∈ T := by rw [ht]; exact List.getElem_mem hi
  obtain ⟨hpr, hle⟩ := h.pr t htm
  have hQ : ∀ q ∈ L.map (·.1), M.Pr q ∧ q ≤ p := by
    intro q hq
    obtain ⟨x, hx, rfl⟩ := List.mem_map.1 hq
    have hg := hE.fac.1.gt x hx
    have h1 := M.dvd_prodP hx hg.2.2
    rw [hE.fac.2] at h1
    have h2 := Nat.le_of_dvd (by have := hpr.1; omega) h1
    exact ⟨hg.2.1, by omega⟩
  refine ⟨hnd, ?_, List.mem_append_left _ h.head, by simp [h.len], by simp; omega, ?_, ?_, ?_⟩
  · intro x hx
    rcases List.mem_append.1 hx with hx | hx
    · exact h.pr x hx
    · exact hQ x (hN.subset hx)
  · intro j hj hj2
    by_cases hjl : j < Es.length
    · have hjT : j < T.length := by have := h.len; omega
      rw [List.getElem_append_left hjl, List.getElem_append_left hjT]
      exact h.ents j hjl hjT
    · have hje : j = i := by have := h.len; simp at hj; omega
      subst hje
      have e2 : (Es ++ [E])[j] = E := by
        rw [List.getElem_append_right (by have := h.len; omega)]; simp [h.len]
      rw [e2, List.getElem_append_left hi, ← ht]
      exact ⟨⟨t, G, L, hE⟩, hE.eP⟩
  · intro E' hE' q hq
    rcases List.mem_append.1 hE' with hm | hm
    · obtain ⟨t', h1, h2⟩ := h.closed E' hm q hq
      exact ⟨t', List.mem_append_left _ h1, h2⟩
    · simp at hm
      subst hm
      rw [hE.eF] at hq
      obtain ⟨x, hx, rfl⟩ := List.mem_map.1 hq
      exact ⟨x.1, hall _ (List.mem_map.2 ⟨x, hx, rfl⟩), rfl⟩
  · have h1 := h.pot
    rw [List.drop_eq_getElem_cons hi, ← ht] at h1
    have h2 : (T ++ N).drop (i + 1) = T.drop (i + 1) ++ N := by rw [List.drop_append_of_le_length (by omega)]
    rw [h2, wts_append]
    have h3 := wts_sub hN (fun x hx => (hQ x hx).1.1)
    have h4 := wts_all hpr hE.fac
    have h5 : wts (t :: T.drop (i + 1)) = wt t * wts (T.drop (i + 1)) := rfl
    rw [h5] at h1
    have h6 : 2 ^ i * (2 * wts N * wts (T.drop (i + 1))) ≤ 2 ^ i * (wt t * wts (T.drop (i + 1))) := Nat.mul_le_mul_left _ (Nat.mul_le_mul_right _ (by omega))
    refine Nat.le_trans (Nat.le_of_eq ?_) (Nat.le_trans h6 h1)
    rw [Nat.pow_succ]
    generalize 2 ^ i = a
    generalize wts N = b
    generalize wts (T.drop (i + 1)) = c
    ac_rfl

structure Whole (p : Nat) (Es : List M.Ent) : Prop where
  ents : ∀ E ∈ Es, IsEnt E
  nd : (Es.map (·.P)).Nodup
  closed : ∀ E ∈ Es, ∀ q ∈ E.F, ∃ E' ∈ Es, E'.P = q
  le : ∀ E ∈ Es, E.P ≤ (p : Int)
  last : ∃ E ∈ Es, E.P = (p : Int)

theorem TSt.done {p : Nat} {T : List Nat} {Es : List M.Ent} (h : TSt p T T.length Es) : Whole p Es := by
  have hmap : Es.map (·.P) = T.map fun (t : Nat) => (t : Int) := by
    apply List.ext_getElem
    · simp [h.len]
    · intro j h1 h2
      simp at h1 h2
      simp [(h.ents j h1 h2).2]
  have hback : ∀ t ∈ T, ∃ E ∈ Es, E.P = (t : Int) := by
    intro t ht
    have : (t : Int) ∈ Es.map (·.P) := by rw [hmap]; exact List.mem_map.2 ⟨t, ht, rfl⟩
    obtain ⟨E, h1, h2⟩ := List.mem_map.1 this
    exact ⟨E, h1, h2⟩
  have hfor : ∀ E ∈ Es, ∃ t ∈ T, E.P = (t : Int) := by
    intro E hE
    have : E.P ∈ T.map fun (t : Nat) => (t : Int) := by rw [← hmap]; exact List.mem_map.2 ⟨E, hE, rfl⟩
    obtain ⟨t, h1, h2⟩ := List.mem_map.1 this
    exact ⟨t, h1, h2.symm⟩
  refine ⟨?_, ?_, ?_, ?_, hback p h.head⟩
  · intro E hE
    obtain ⟨j, hj, rfl⟩ := List.mem_iff_getElem.1 hE
    exact (h.ents j hj (by have := h.len; omega)).1
  · rw [hmap]
    exact List.Pairwise.map _ (fun a b hab e => hab (by exact_mod_cast e)) h.nd
  · intro E hE q hq
    obtain ⟨t, h1, h2⟩ := h.closed E hE q hq
    obtain ⟨E', h3, h4⟩ := hback t h1
    exact ⟨E', h3, h4.trans h2⟩
  · intro E hE
    obtain ⟨t, h1, h2⟩ := hfor E hE
    have := (h.pr t h1).2
    omega

/-- The entries in their order are right. -/
theorem Whole.proof {p : Nat} {Es Es' : List M.Ent} (h : Whole p Es) (hp : Es'.Perm Es) (hs : Es'.Pairwise fun a b => a.P ≤ b.P) : M.proofP (p : Int) 1 [] Es' = true := by
  have hmem : ∀ E, E ∈ Es' ↔ E ∈ Es := fun E => hp.mem_iff
  have hnd : (Es'.map (·.P)).Nodup := (hp.map (·.P)).nodup_iff.2 h.nd
  have hne : Es'.Pairwise fun a b => a.P ≠ b.P := List.pairwise_map.1 hnd
  have hlt : Es'.Pairwise fun a b => a.P < b.P := (hs.and hne).imp fun {a b} ⟨h1, h2⟩ => by omega
  obtain ⟨E0, h1, h2⟩ := h.last
  refine proof_of Es' 1 [] (fun E hE => h.ents E ((hmem E).1 hE)) (fun E hE => by have := (ent_lt (h.ents E ((hmem E).1 hE))).1; omega) hlt ?_ (fun E hE => h.le E ((hmem E).1 hE)) ?_ (fun _ => ⟨E0, (hmem E0).2 h1, h2⟩)
  · intro E hE q hq
    obtain ⟨E', h3, h4⟩ := h.closed E ((hmem E).1 hE) q hq
    exact .inr ⟨E', (hmem E').2 h3, h4⟩
  · intro hB
    subst hB
    have := (hmem E0).2 h1
    cases this

end Go.Proofs.Ytldfbadcigdbkaa
