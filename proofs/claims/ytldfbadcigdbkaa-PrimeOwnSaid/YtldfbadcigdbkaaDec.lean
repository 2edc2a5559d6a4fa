/- What the program's proof of a prime is made of, that it is right, and how long it can be. Nothing here speaks of the program's text. -/
import Derived.Test.YtldfbadcigdbkaaWalkGen
import Derived.Test.YtldfbadcigdbkaaPratt
namespace Go.Proofs.Ytldfbadcigdbkaa

/-- The entry that is made for a prime. -/
structure PrEnt (E : M.Ent) (p G : Nat) (L : List (Nat × Nat)) : Prop where
  pr : M.Pr p
  small : p ≤ 2147483647
  eP : E.P = (p : Int)
  eW : E.W = (G : Int)
  eF : E.F = L.map fun x => (x.1 : Int)
  fac : M.IsFac (p - 1) L
  g1 : 1 ≤ G
  gp : G < p
  gen : genB G p (L.map (·.1)) = true

def IsEnt (E : M.Ent) : Prop := ∃ p G L, PrEnt E p G L

theorem areF_of {S : List Int} : ∀ (L : List (Nat × Nat)) (lo : Nat), M.FacFrom lo L → 1 ≤ lo → (∀ x ∈ L, (x.1 : Int) ∈ S) → M.areF S (lo : Int) (M.prodP L : Nat) (L.map fun x => (x.1 : Int)) = true
  | [], lo, _, _, _ => by simp [M.areF, M.prodP]
  | (q, e) :: L, lo, h, hlo, hS => by
    have h1 : lo < q := h.1
    have h2 : M.Pr q := h.2.1
    have h3 : 1 ≤ e := h.2.2.1
    have h4 : M.FacFrom q L := h.2.2.2
    have hq2 := h2.1
    have hpos := h4.pos
    have hprod : M.prodP ((q, e) :: L) = q ^ e * M.prodP L := rfl
    have hdvd : q ∣ M.prodP ((q, e) :: L) := by
      rw [hprod]
      obtain ⟨k, rfl⟩ : ∃ k, e = k + 1 := ⟨e - 1, by omega⟩
      exact ⟨q ^ k * M.prodP L, by rw [Nat.pow_succ]; ac_rfl⟩
    have hpos2 : 1 ≤ M.prodP ((q, e) :: L) := h.pos
    rw [List.map_cons, M.areF, if_neg]
    · have hst : M.strips (q : Int) ((M.prodP ((q, e) :: L) : Nat) : Int) = ((M.prodP L : Nat) : Int) := by
        obtain ⟨e', g1, g2, g3, _⟩ := M.strips_spec (q := (q : Int)) (n := ((M.prodP ((q, e) :: L) : Nat) : Int)) (by omega) (by omega)
        simp only [Int.toNat_natCast] at g1 g2
        have := (M.strip_unique hq2 (hprod.symm.trans g1) (M.FacFrom.not_dvd h2 h4) g2).2
        omega
      rw [hst]
      exact areF_of L q h4 (by omega) (fun x hx => hS x (List.mem_cons_of_mem _ hx))
    · rintro (h5 | h5 | h5)
      · omega
      · exact h5 (hS (q, e) (List.mem_cons_self ..))
      · exact h5 (Int.emod_eq_zero_of_dvd (by exact_mod_cast hdvd))

theorem ent_ok {E : M.Ent} {p G : Nat} {L : List (Nat × Nat)} {S : List Int} (h : PrEnt E p G L) (hS : ∀ q ∈ E.F, q ∈ S) : M.entP S E = true := by
  have hp2 := h.pr.1
  by_cases h2 : p = 2
  · subst h2
    have hL : L = [] := by
      have := h.fac
      cases L with
      | nil => rfl
      | cons x l =>
        have h1 := this.1.2.1.1
        have h3 : x.1 ∣ 1 := by
          have := M.dvd_prodP (List.mem_cons_self (a := x) (l := l)) this.1.2.2.1
          rwa [h.fac.2] at this
        have := Nat.le_of_dvd (by omega) h3
        omega
    have hG : G = 1 := by have := h.g1; have := h.gp; omega
    unfold M.entP
    rw [if_pos (by rw [h.eP]; rfl), h.eW, h.eF, hL, hG]; rfl
  · have hodd := M.odd_prime h.pr (by omega)
    have h2d : 2 ∣ p - 1 := by omega
    have pr2 : M.Pr 2 := ⟨by omega, fun d hd => by
      have h3 := Nat.le_of_dvd (by omega) hd
      have h4 : 0 < d := Nat.pos_of_dvd_of_pos hd (by omega)
      omega⟩
    have hgen := (genB_iff h.fac).1 h.gen
    have hG2 : 2 ≤ G := by
      rcases Nat.lt_or_ge G 2 with h3 | h3
      · have hG1 : G = 1 := by have := h.g1; omega
        have := hgen 2 pr2 h2d
        rw [hG1, Nat.one_pow, Nat.mod_eq_of_lt (by omega)] at this
        exact absurd rfl this
      · exact h3
    have hGp := h.gp
    unfold M.entP
    rw [h.eP, h.eW, if_neg (by omega), if_neg (by omega)]
    rw [Bool.and_eq_true, Bool.and_eq_true]
    have hp1 : ((p : Int) - 1) = ((p - 1 : Nat) : Int) := by omega
    refine ⟨?_, ?_, ?_⟩
    · rw [h.eF, hp1, ← h.fac.2]
      exact areF_of L 1 h.fac.1 (Nat.le_refl _) (fun x hx => hS _ (by rw [h.eF]; exact List.mem_map.2 ⟨x, hx, rfl⟩))
    · have hf := M.fermat h.pr (a := G) (fun hd => by have := Nat.le_of_dvd (by omega) hd; omega)
      rw [hp1]
      unfold M.powB
      rw [pw_nat, hf]; rfl
    · unfold M.gensI
      rw [h.eF, List.all_eq_true]
      intro q hq
      obtain ⟨x, hx, rfl⟩ := List.mem_map.1 hq
      have hg := h.fac.1.gt x hx
      have h5 := hgen x.1 hg.2.1 (by have := M.dvd_prodP hx hg.2.2; rwa [h.fac.2] at this)
      unfold M.powB
      rw [hp1, show (((p - 1 : Nat) : Int) / (x.1 : Int)) = (((p - 1) / x.1 : Nat) : Int) from rfl, pw_nat]
      simp only [Bool.not_eq_true', beq_eq_false_iff_ne]
      exact fun h6 => h5 (by exact_mod_cast h6)

theorem ent_lt {E : M.Ent} (h : IsEnt E) : 2 ≤ E.P ∧ E.P ≤ 2147483647 ∧ ∀ q ∈ E.F, 2 ≤ q ∧ q < E.P := by
  obtain ⟨p, G, L, h⟩ := h
  have hp2 := h.pr.1
  have := h.small
  rw [h.eP]
  refine ⟨by omega, by omega, fun q hq => ?_⟩
  rw [h.eF] at hq
  obtain ⟨x, hx, rfl⟩ := List.mem_map.1 hq
  have hg := h.fac.1.gt x hx
  have h1 := M.dvd_prodP hx hg.2.2
  rw [h.fac.2] at h1
  have h2 := Nat.le_of_dvd (by omega) h1
  omega

theorem proof_of {n : Int} : ∀ (B : List M.Ent) (last : Int) (S : List Int), (∀ E ∈ B, IsEnt E) → (∀ E ∈ B, last < E.P) → B.Pairwise (fun a b => a.P < b.P) →
    (∀ E ∈ B, ∀ q ∈ E.F, q ∈ S ∨ ∃ E' ∈ B, E'.P = q) → (∀ E ∈ B, E.P ≤ n) → (B = [] → last = n) → (B ≠ [] → ∃ E ∈ B, E.P = n) → M.proofP n last S B = true
  | [], last, S, _, _, _, _, _, h6, _ => by rw [M.proofP, h6 rfl]; simp
  | E :: B, last, S, h1, h2, h3, h4, h5, _, h7 => by
    have hE := h1 E (List.mem_cons_self ..)
    obtain ⟨hlt2, hltm, hlt⟩ := ent_lt hE
    have hP := List.pairwise_cons.1 h3
    have hin : ∀ q ∈ E.F, q ∈ S := by
      intro q hq
      rcases h4 E (List.mem_cons_self ..) q hq with h | ⟨E', hE', he⟩
      · exact h
      · have := (hlt q hq).2
        rcases List.mem_cons.1 hE' with rfl | hm
        · omega
        · have := hP.1 E' hm; omega
    obtain ⟨p, G, L, hpe⟩ := hE
    have hok := ent_ok hpe hin
    rw [M.proofP, if_neg]
    · refine proof_of B E.P (E.P :: S) (fun x hx => h1 x (List.mem_cons_of_mem _ hx)) (fun x hx => hP.1 x hx) hP.2 ?_ (fun x hx => h5 x (List.mem_cons_of_mem _ hx)) ?_ ?_
      · intro x hx q hq
        rcases h4 x (List.mem_cons_of_mem _ hx) q hq with h | ⟨E', hE', he⟩
        · exact .inl (List.mem_cons_of_mem _ h)
        · rcases List.mem_cons.1 hE' with rfl | hm
          · exact .inl (by rw [← he]; exact List.mem_cons_self ..)
          · exact .inr ⟨E', hm, he⟩
      · intro hB
        subst hB
        obtain ⟨E', hE', he⟩ := h7 (by simp)
        rcases List.mem_cons.1 hE' with rfl | hm
        · exact he
        · cases hm
      · intro hB
        obtain ⟨E', hE', he⟩ := h7 (by simp)
        rcases List.mem_cons.1 hE' with rfl | hm
        · obtain ⟨y, ys, rfl⟩ := List.exists_cons_of_ne_nil hB
          have := hP.1 y (List.mem_cons_self ..)
          have := h5 y (List.mem_cons_of_mem _ (List.mem_cons_self ..))
          omega
        · exact ⟨E', hm, he⟩
    · rintro (h | h | h)
      · have := h2 E (List.mem_cons_self ..); omega
      · have := h5 E (List.mem_cons_self ..); omega
      · rw [hok] at h; cases h

/-! ### How many entries there are -/
def wt (t : Nat) : Nat := if t = 2 then 2 else t * t
def wts : List Nat → Nat
  | [] => 1
  | t :: l => wt t * wts l

theorem wts_append (a b : List Nat) : wts (a ++ b) = wts a * wts b := by
  induction a with
  | nil => simp [wts]
  | cons x l ih => simp [wts, ih, Nat.mul_assoc]

theorem wt_two {t : Nat} (h : 2 ≤ t) : 2 ≤ wt t := by
  unfold wt; split
  · omega
  · have := Nat.mul_le_mul h h; omega

theorem wts_pow {l : List Nat} (h : ∀ x ∈ l, 2 ≤ x) : 2 ^ l.length ≤ wts l := by
  induction l with
  | nil => simp [wts]
  | cons x l ih =>
    rw [List.length_cons, Nat.pow_succ, Nat.mul_comm]
    exact Nat.mul_le_mul (wt_two (h x (List.mem_cons_self ..))) (ih fun y hy => h y (List.mem_cons_of_mem _ hy))

theorem wts_sub {a b : List Nat} (h : a.Sublist b) (hb : ∀ x ∈ b, 2 ≤ x) : wts a ≤ wts b := by
  induction h with
  | slnil => exact Nat.le_refl _
  | cons x _ ih =>
    have h1 := ih (fun y hy => hb y (List.mem_cons_of_mem _ hy))
    have h2 := wt_two (hb x (List.mem_cons_self ..))
    have h3 : 1 * wts _ ≤ wt x * wts _ := Nat.mul_le_mul (show 1 ≤ wt x by omega) h1
    simpa [wts] using h3
  | cons_cons x _ ih => exact Nat.mul_le_mul_left _ (ih fun y hy => hb y (List.mem_cons_of_mem _ hy))

theorem wts_odd : ∀ (L : List (Nat × Nat)) (lo : Nat), M.FacFrom lo L → 2 ≤ lo → wts (L.map (·.1)) ≤ M.prodP L * M.prodP L
  | [], _, _, _ => by simp [wts, M.prodP]
  | (q, e) :: L, lo, h, hlo => by
    have h1 : lo < q := h.1
    have h4 := wts_odd L q h.2.2.2 (by omega)
    have hw : wt q = q * q := by unfold wt; rw [if_neg (by omega)]
    have he : 1 ≤ e := h.2.2.1
    have hq : q ≤ q ^ e := by
      have := Nat.pow_le_pow_right (show 0 < q by omega) he
      simpa using this
    show wt q * wts (L.map (·.1)) ≤ (q ^ e * M.prodP L) * (q ^ e * M.prodP L)
    rw [hw]
    have h5 := Nat.mul_le_mul (Nat.mul_le_mul hq hq) h4
    calc _ ≤ _ := h5
      _ = _ := by ac_rfl

theorem wts_all {p : Nat} {L : List (Nat × Nat)} (hp : M.Pr p) (hL : M.IsFac (p - 1) L) : 2 * wts (L.map (·.1)) ≤ wt p := by
  have hp2 := hp.1
  by_cases h2 : p = 2
  · subst h2
    cases L with
    | nil => simp [wts, wt]
    | cons x l =>
      have h1 := hL.1.2.1.1
      have h3 : x.1 ∣ 1 := by
        have := M.dvd_prodP (List.mem_cons_self (a := x) (l := l)) hL.1.2.2.1
        rwa [hL.2] at this
      have := Nat.le_of_dvd (by omega) h3
      omega
  · have hodd := M.odd_prime hp (by omega)
    have h2d : 2 ∣ p - 1 := by omega
    have pr2 : M.Pr 2 := ⟨by omega, fun d hd => by
      have h3 := Nat.le_of_dvd (by omega) hd
      have h4 : 0 < d := Nat.pos_of_dvd_of_pos hd (by omega)
      omega⟩
    cases L with
    | nil => have := hL.2; simp [M.prodP] at this; omega
    | cons x l =>
      have hx : x.1 = 2 := by
        have := hL.1.head_le (k := 2) (by omega) (by rw [hL.2]; exact h2d)
        have := hL.1.1
        omega
      have hl := wts_odd l x.1 hL.1.2.2.2 (by omega)
      have he : 1 ≤ x.2 := hL.1.2.2.1
      have hpow : 2 ≤ 2 ^ x.2 := by
        have := Nat.pow_le_pow_right (show 0 < 2 by omega) he
        simpa using this
      have hprod : 2 ^ x.2 * M.prodP l = p - 1 := by
        have := hL.2
        rw [M.prodP, hx] at this; exact this
      have h6 : 2 * M.prodP l ≤ p - 1 := by rw [← hprod]; exact Nat.mul_le_mul_right _ hpow
      have h7 := Nat.mul_le_mul h6 h6
      have h8 : (p - 1) * (p - 1) ≤ p * p := Nat.mul_le_mul (by omega) (by omega)
      have hw : wt p = p * p := by unfold wt; rw [if_neg h2]
      have h9 : 2 * wts ((x :: l).map (·.1)) = 4 * wts (l.map (·.1)) := by
        show 2 * (wt x.1 * wts (l.map (·.1))) = _
        rw [hx]; simp [wt]; omega
      rw [hw, h9]
      have h10 : 2 * M.prodP l * (2 * M.prodP l) = 4 * (M.prodP l * M.prodP l) := by
        generalize M.prodP l = z
        rw [show (4 : Nat) = 2 * 2 from rfl]; ac_rfl
      omega

end Go.Proofs.Ytldfbadcigdbkaa
