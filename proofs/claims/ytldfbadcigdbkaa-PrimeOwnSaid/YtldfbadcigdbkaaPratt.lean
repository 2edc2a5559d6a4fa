/- Proofs that a number is a prime: the program's way of checking one, the reference's way, and that they agree. Nothing here speaks of the program's text. -/
import Derived.Test.YtldfbadcigdbkaaOAt
namespace Go.Proofs.Ytldfbadcigdbkaa.M

/-- An entry of a proof. -/
structure Ent where
  P : Int
  W : Int
  F : List Int

/-- The power modulo P, on numbers as they come. -/
def powB (W e P : Int) : Bool := pw W e P == 1

/-- What is left of n when q is divided out as often as possible. -/
def stripAll (q : Nat) : Nat → Nat → Nat
  | 0, n => n
  | f + 1, n => if n % q = 0 then stripAll q f (n / q) else n

def strips (q n : Int) : Int := ((stripAll q.toNat n.toNat n.toNat : Nat) : Int)

/-- The program's check of the factors. -/
def areF (S : List Int) : Int → Int → List Int → Bool
  | _, rest, [] => rest == 1
  | last, rest, q :: F => if q ≤ last ∨ q ∉ S ∨ rest % q ≠ 0 then false else areF S q (strips q rest) F

def gensI (W P : Int) (F : List Int) : Bool := F.all fun q => !(powB W ((P - 1) / q) P)

/-- The program's check of an entry. -/
def entP (S : List Int) (E : Ent) : Bool :=
  if E.P = 2 then E.W == 1 && E.F.length == 0
  else if E.P % 2 = 0 ∨ E.W < 2 ∨ E.P ≤ E.W then false
  else areF S 1 (E.P - 1) E.F && (powB E.W (E.P - 1) E.P && gensI E.W E.P E.F)

/-- The program's check of a list of entries, behind those whose P are in S (the last one first). -/
def proofP (n : Int) : Int → List Int → List Ent → Bool
  | last, _, [] => last == n
  | last, S, E :: L => if E.P ≤ last ∨ n < E.P ∨ entP S E = false then false else proofP n E.P (E.P :: S) L

/-- The reference's check of the factors. -/
def areR (S : List Int) (W P : Int) : Option Int → Int → List Int → Bool
  | _, rest, [] => rest == 1
  | prev, rest, q :: F => if (∃ p, prev = some p ∧ q ≤ p) ∨ q ∉ S ∨ (P - 1) % q ≠ 0 ∨ powB W ((P - 1) / q) P = true then false else areR S W P (some q) (strips q rest) F

/-- The reference's check of an entry. -/
def entR (S : List Int) (E : Ent) : Bool :=
  if E.P = 2 then E.W == 1 && E.F.length == 0
  else if E.P < 3 ∨ E.P % 2 = 0 ∨ E.W < 2 ∨ E.P ≤ E.W ∨ powB E.W (E.P - 1) E.P = false then false
  else areR S E.W E.P none (E.P - 1) E.F

def proofR (n : Int) : Option Int → List Int → List Ent → Bool
  | last, _, [] => last == some n
  | last, S, E :: L => if (∃ p, last = some p ∧ E.P ≤ p) ∨ n < E.P ∨ entR S E = false then false else proofR n (some E.P) (E.P :: S) L

/-! ### Stripping -/
theorem stripAll_spec {q : Nat} (hq : 2 ≤ q) : ∀ (f n : Nat), n ≤ f → 1 ≤ n → ∃ e, n = q ^ e * stripAll q f n ∧ ¬ q ∣ stripAll q f n ∧ 1 ≤ stripAll q f n
  | 0, n, h, h1 => by omega
  | f + 1, n, h, h1 => by
    by_cases hd : n % q = 0
    · have hdv := Nat.dvd_of_mod_eq_zero hd
      have hlt : n / q < n := Nat.div_lt_self h1 hq
      have hpos : 1 ≤ n / q := Nat.div_pos (Nat.le_of_dvd h1 hdv) (by omega)
      obtain ⟨e, h2, h3, h4⟩ := stripAll_spec hq f (n / q) (by omega) hpos
      rw [stripAll, if_pos hd]
      refine ⟨e + 1, ?_, h3, h4⟩
      rw [Nat.pow_succ, Nat.mul_comm (q ^ e), Nat.mul_assoc, ← h2, Nat.mul_div_cancel' hdv]
    · rw [stripAll, if_neg hd]
      exact ⟨0, by simp, fun h5 => hd (Nat.mod_eq_zero_of_dvd h5), h1⟩

theorem strips_spec {q n : Int} (hq : 2 ≤ q) (hn : 1 ≤ n) : ∃ e : Nat, n.toNat = q.toNat ^ e * (strips q n).toNat ∧ ¬ q.toNat ∣ (strips q n).toNat ∧ 1 ≤ strips q n ∧ strips q n ≤ n := by
  obtain ⟨e, h1, h2, h3⟩ := stripAll_spec (q := q.toNat) (by omega) n.toNat n.toNat (Nat.le_refl _) (by omega)
  have hs : (strips q n).toNat = stripAll q.toNat n.toNat n.toNat := by unfold strips; simp
  refine ⟨e, by rw [hs]; exact h1, by rw [hs]; exact h2, by unfold strips; omega, ?_⟩
  have h4 : stripAll q.toNat n.toNat n.toNat ≤ n.toNat := by
    have h5 : 1 * stripAll q.toNat n.toNat n.toNat ≤ q.toNat ^ e * stripAll q.toNat n.toNat n.toNat := Nat.mul_le_mul_right _ (Nat.pow_pos (by omega))
    omega
  unfold strips; omega

/-- What the factors that were divided out have in common with what is left. -/
structure Left (n rest : Nat) (D : List Int) : Prop where
  pos : 1 ≤ rest
  dvd : rest ∣ n
  prime : ∀ q, Pr q → q ∣ n → (q : Int) ∈ D ∨ q ∣ rest
  none : ∀ q ∈ D, ¬ q.toNat ∣ rest

theorem Left.step {n rest : Nat} {D : List Int} {q : Int} (h : Left n rest D) (hq : Pr q.toNat) : Left n (strips q rest).toNat (q :: D) := by
  have hq2 := hq.1
  obtain ⟨e, h1, h2, h3, h4⟩ := strips_spec (q := q) (n := (rest : Int)) (by omega) (by have := h.pos; omega)
  rw [Int.toNat_natCast] at h1
  generalize (strips q rest).toNat = s at *
  have hsd : s ∣ rest := ⟨q.toNat ^ e, by rw [h1]; exact Nat.mul_comm ..⟩
  have hs1 : 1 ≤ s := by
    apply Nat.pos_of_ne_zero
    intro e0
    subst e0
    have := h.pos
    omega
  refine ⟨hs1, Nat.dvd_trans hsd h.dvd, fun p hp hpn => ?_, fun x hx => ?_⟩
  · rcases h.prime p hp hpn with h5 | h5
    · exact .inl (List.mem_cons_of_mem _ h5)
    · rw [h1] at h5
      rcases hp.dvd_mul h5 with h6 | h6
      · have h7 := hp.dvd_pow h6
        rcases hq.2 p h7 with h8 | h8
        · have := hp.1; omega
        · exact .inl (by rw [show (p : Int) = q by omega]; exact List.mem_cons_self ..)
      · exact .inr h6
  · rcases List.mem_cons.1 hx with rfl | hx
    · exact h2
    · exact fun hd => h.none x hx (Nat.dvd_trans hd hsd)

theorem Left.start (n : Nat) (h : 1 ≤ n) : Left n n [] := ⟨h, Nat.dvd_refl _, fun _ _ hd => .inr hd, by simp⟩

/-- A prime that was not divided out divides what is left just if it divides the whole. -/
theorem Left.dvd_iff {n rest : Nat} {D : List Int} {q : Nat} (h : Left n rest D) (hq : Pr q) (hD : (q : Int) ∉ D) : q ∣ rest ↔ q ∣ n := by
  constructor
  · exact fun hd => Nat.dvd_trans hd h.dvd
  · intro hd
    rcases h.prime q hq hd with h1 | h1
    · exact absurd h1 hD
    · exact h1

theorem emod_ne_iff {a q : Int} (ha : 0 ≤ a) (hq : 1 ≤ q) : a % q ≠ 0 ↔ ¬ q.toNat ∣ a.toNat := by
  obtain ⟨A, rfl⟩ := Int.eq_ofNat_of_zero_le ha
  obtain ⟨Q, rfl⟩ := Int.eq_ofNat_of_zero_le (show 0 ≤ q by omega)
  rw [Int.toNat_natCast, Int.toNat_natCast]
  constructor
  · exact fun h hd => h (Int.emod_eq_zero_of_dvd (by exact_mod_cast hd))
  · exact fun h he => h (by exact_mod_cast Int.dvd_of_emod_eq_zero he)

/-- Both checks of the factors agree, where the earlier ones are primes. -/
theorem are_eq {S : List Int} {W P : Int} (hS : ∀ q ∈ S, Pr q.toNat ∧ 2 ≤ q) (hP : 3 ≤ P) :
    ∀ (F : List Int) (last : Int) (prev : Option Int) (rest : Int) (D : List Int), (∀ p, prev = some p → p = last) → (prev = none → last = 1) → 1 ≤ rest → Left (P - 1).toNat rest.toNat D → (∀ d ∈ D, d ≤ last) →
      areR S W P prev rest F = (areF S last rest F && gensI W P F)
  | [], last, prev, rest, D, _, _, _, _, _ => by simp [areR, areF, gensI]
  | q :: F, last, prev, rest, D, h1, h2, h3, h4, h5 => by
    by_cases hqS : q ∈ S
    · obtain ⟨hq, hq2⟩ := hS q hqS
      by_cases hle : q ≤ last
      · have hA : areF S last rest (q :: F) = false := by rw [areF, if_pos (.inl hle)]
        rw [hA, Bool.false_and, areR]
        cases prev with
        | none => have := h2 rfl; omega
        | some p => rw [if_pos (.inl ⟨p, rfl, by rw [h1 p rfl]; exact hle⟩)]
      · have hD : ((q.toNat : Nat) : Int) ∉ D := fun hd => by have := h5 _ hd; omega
        have hiff := h4.dvd_iff hq hD
        have hm1 := emod_ne_iff (a := rest) (q := q) (by omega) (by omega)
        have hm2 := emod_ne_iff (a := P - 1) (q := q) (by omega) (by omega)
        have hno : ¬ ∃ p, prev = some p ∧ q ≤ p := by
          rintro ⟨p, hp1, hp2⟩
          have := h1 p hp1
          omega
        by_cases hdv : q.toNat ∣ rest.toNat
        · have hr0 : rest % q = 0 := by
            refine Classical.byContradiction fun hc => (hm1.1 hc) hdv
          have hP0 : (P - 1) % q = 0 := by
            refine Classical.byContradiction fun hc => (hm2.1 hc) (hiff.1 hdv)
          have hA : areF S last rest (q :: F) = areF S q (strips q rest) F := by
            rw [areF, if_neg]
            rintro (h | h | h)
            · exact hle h
            · exact h hqS
            · exact h hr0
          have hG : gensI W P (q :: F) = (!(powB W ((P - 1) / q) P) && gensI W P F) := by simp [gensI]
          rw [hA, hG, areR]
          by_cases hp : powB W ((P - 1) / q) P = true
          · rw [if_pos (.inr (.inr (.inr hp))), hp]; simp
          · have hpf : powB W ((P - 1) / q) P = false := by simpa using hp
            rw [if_neg]
            · have hst := h4.step hq
              have hrn : ((rest.toNat : Nat) : Int) = rest := by omega
              rw [hrn] at hst
              obtain ⟨_, _, _, h8, _⟩ := strips_spec (q := q) (n := rest) hq2 h3
              rw [hpf, are_eq hS hP F q (some q) (strips q rest) (q :: D) (fun p hp' => by cases hp'; rfl) (fun hn => by cases hn) h8 hst (fun d hd => by
                rcases List.mem_cons.1 hd with rfl | hd
                · exact Int.le_refl _
                · have := h5 d hd; omega)]
              simp
            · rintro (h | h | h | h)
              · exact hno h
              · exact h hqS
              · exact h hP0
              · exact hp h
        · have hr0 : rest % q ≠ 0 := hm1.2 hdv
          have hP0 : (P - 1) % q ≠ 0 := hm2.2 fun h => hdv (hiff.2 h)
          rw [areF, if_pos (.inr (.inr hr0)), areR, if_pos (.inr (.inr (.inl hP0)))]; rfl
    · rw [areF, if_pos (.inr (.inl hqS)), areR, if_pos (.inr (.inl hqS))]; rfl

/-- All that is divided out by a right list of factors. -/
theorem areF_primes {S : List Int} (hS : ∀ q ∈ S, Pr q.toNat ∧ 2 ≤ q) {n : Nat} : ∀ (F : List Int) (last rest : Int) (D : List Int), 1 ≤ rest → Left n rest.toNat D → areF S last rest F = true →
    ∀ q, Pr q → q ∣ n → (q : Int) ∈ D ∨ (q : Int) ∈ F
  | [], last, rest, D, h1, h2, h3, q, hq, hd => by
    have : rest = 1 := by simpa [areF] using h3
    subst this
    rcases h2.prime q hq hd with h4 | h4
    · exact .inl h4
    · have h5 : q ≤ 1 := Nat.le_of_dvd (by omega) h4
      have := hq.1
      omega
  | x :: F, last, rest, D, h1, h2, h3, q, hq, hd => by
    rw [areF] at h3
    split at h3
    · cases h3
    · rename_i h4
      have hx : x ∈ S := Classical.byContradiction fun hc => h4 (.inr (.inl hc))
      obtain ⟨hxp, hx2⟩ := hS x hx
      have hst := h2.step hxp
      rw [show ((rest.toNat : Nat) : Int) = rest by omega] at hst
      obtain ⟨_, _, _, h8, _⟩ := strips_spec (q := x) (n := rest) hx2 h1
      rcases areF_primes hS F x (strips x rest) (x :: D) h8 hst h3 q hq hd with h5 | h5
      · rcases List.mem_cons.1 h5 with h6 | h6
        · exact .inr (by rw [h6]; exact List.mem_cons_self ..)
        · exact .inl h6
      · exact .inr (List.mem_cons_of_mem _ h5)

theorem ent_eq {S : List Int} (hS : ∀ q ∈ S, Pr q.toNat ∧ 2 ≤ q) {E : Ent} (hP : 2 ≤ E.P) : entR S E = entP S E := by
  unfold entR entP
  by_cases h2 : E.P = 2
  · rw [if_pos h2, if_pos h2]
  · rw [if_neg h2, if_neg h2]
    by_cases hb : E.P % 2 = 0 ∨ E.W < 2 ∨ E.P ≤ E.W
    · rw [if_pos hb, if_pos (by rcases hb with h | h | h <;> simp [h])]
    · rw [if_neg hb]
      have heq := are_eq (W := E.W) hS (show 3 ≤ E.P by omega) E.F 1 none (E.P - 1) [] (fun p hp => by cases hp) (fun _ => rfl) (by omega) (Left.start _ (by omega)) (by simp)
      by_cases hp : powB E.W (E.P - 1) E.P = true
      · rw [if_neg, heq, hp, Bool.true_and]
        rintro (h | h | h | h | h)
        · omega
        · exact hb (.inl h)
        · exact hb (.inr (.inl h))
        · exact hb (.inr (.inr h))
        · rw [hp] at h; cases h
      · have hpf : powB E.W (E.P - 1) E.P = false := by simpa using hp
        rw [if_pos (by simp [hpf]), hpf]; simp

theorem ent_prime {S : List Int} (hS : ∀ q ∈ S, Pr q.toNat ∧ 2 ≤ q) {E : Ent} (hP : 2 ≤ E.P) (h : entP S E = true) : Pr E.P.toNat := by
  unfold entP at h
  split at h
  · rename_i h2
    rw [h2]
    refine ⟨by simp, fun d hd => ?_⟩
    have h1 : d ∣ 2 := hd
    have h3 := Nat.le_of_dvd (by omega) h1
    have h4 : 0 < d := Nat.pos_of_dvd_of_pos h1 (by omega)
    rcases (show d = 1 ∨ d = 2 by omega) with rfl | rfl
    · exact .inl rfl
    · exact .inr rfl
  · split at h
    · cases h
    · rename_i h2 hb
      rw [Bool.and_eq_true, Bool.and_eq_true] at h
      obtain ⟨h3, h4, h5⟩ := h
      have hW : 2 ≤ E.W ∧ E.W < E.P := by omega
      have hprimes := areF_primes hS (n := (E.P - 1).toNat) E.F 1 (E.P - 1) [] (by omega) (Left.start _ (by omega)) h3
      have hpw : E.W.toNat ^ (E.P.toNat - 1) % E.P.toNat = 1 := by
        unfold powB pw at h4
        rw [beq_iff_eq] at h4
        rw [show (E.P - 1).toNat = E.P.toNat - 1 by omega] at h4
        omega
      refine pratt (w := E.W.toNat) (by omega) hpw fun q hq hd => ?_
      rw [show E.P.toNat - 1 = (E.P - 1).toNat by omega] at hd
      rcases hprimes q hq hd with h6 | h6
      · cases h6
      · unfold gensI at h5
        rw [List.all_eq_true] at h5
        have h7 := h5 _ h6
        unfold powB pw at h7
        have e1 : ((E.P - 1) / (q : Int)).toNat = (E.P.toNat - 1) / q := by
          obtain ⟨p, hp⟩ := Int.eq_ofNat_of_zero_le (show 0 ≤ E.P - 1 by omega)
          rw [hp, show ((p : Int) / (q : Int)) = ((p / q : Nat) : Int) from rfl, Int.toNat_natCast]
          congr 1; omega
        rw [e1] at h7
        intro h8
        rw [h8] at h7
        simp at h7

theorem proof_eq {n : Int} : ∀ (L : List Ent) (last : Int) (prev : Option Int) (S : List Int), (∀ q ∈ S, Pr q.toNat ∧ 2 ≤ q) → 1 ≤ last → (∀ p, prev = some p → p = last) → (prev = none → last = 1) →
    proofR n prev S L = (if prev = none ∧ L = [] then false else proofP n last S L)
  | [], last, prev, S, _, _, h1, h2 => by
    cases prev with
    | none => simp [proofR]
    | some p => simp [proofR, proofP, h1 p rfl]
  | E :: L, last, prev, S, hS, hl, h1, h2 => by
    rw [if_neg (by simp), proofR, proofP]
    by_cases hle : E.P ≤ last
    · rw [if_pos (show E.P ≤ last ∨ n < E.P ∨ entP S E = false from .inl hle)]
      cases prev with
      | none =>
        have hl1 := h2 rfl
        have : entR S E = false := by
          unfold entR
          rw [if_neg (by omega), if_pos (.inl (by omega))]
        rw [if_pos (.inr (.inr this))]
      | some p => rw [if_pos (.inl ⟨p, rfl, by rw [h1 p rfl]; exact hle⟩)]
    · have he := ent_eq hS (E := E) (by omega)
      have hno : ¬ ∃ p, prev = some p ∧ E.P ≤ p := by
        rintro ⟨p, hp1, hp2⟩
        have := h1 p hp1
        omega
      rw [he]
      by_cases hb : n < E.P ∨ entP S E = false
      · rw [if_pos (.inr hb), if_pos (.inr hb)]
      · rw [if_neg (fun h => h.elim hno hb), if_neg (fun h => h.elim hle hb)]
        have hent : entP S E = true := by
          cases h : entP S E with
          | true => rfl
          | false => exact absurd (.inr h) hb
        rw [proof_eq L E.P (some E.P) (E.P :: S) (fun q hq => by
          rcases List.mem_cons.1 hq with rfl | hq
          · exact ⟨ent_prime hS (by omega) hent, by omega⟩
          · exact hS q hq) (by omega) (fun p hp => by cases hp; rfl) (fun hn => by cases hn)]
        simp

/-- A right list of entries proves that the last P is a prime. -/
theorem proof_prime {n : Int} : ∀ (L : List Ent) (last : Int) (S : List Int), (∀ q ∈ S, Pr q.toNat ∧ 2 ≤ q) → 1 ≤ last → (last = 1 ∨ Pr last.toNat) → proofP n last S L = true → n = 1 ∧ L = [] ∨ Pr n.toNat
  | [], last, S, _, _, hp, h => by
    have : last = n := by simpa [proofP] using h
    subst this
    rcases hp with h1 | h1
    · exact .inl ⟨h1, rfl⟩
    · exact .inr h1
  | E :: L, last, S, hS, hl, _, h => by
    rw [proofP] at h
    split at h
    · cases h
    · rename_i hb
      have hle : ¬ E.P ≤ last := fun h => hb (.inl h)
      have hent : entP S E = true := by
        cases h : entP S E with
        | true => rfl
        | false => exact absurd (.inr (.inr h)) hb
      have hpr := ent_prime hS (E := E) (by omega) hent
      rcases proof_prime L E.P (E.P :: S) (fun q hq => by
        rcases List.mem_cons.1 hq with rfl | hq
        · exact ⟨hpr, by omega⟩
        · exact hS q hq) (by omega) (.inr hpr) h with h1 | h1
      · obtain ⟨h2, rfl⟩ := h1
        right
        have : E.P = n := by simpa [proofP] using h
        rw [← this]; exact hpr
      · exact .inr h1

end Go.Proofs.Ytldfbadcigdbkaa.M
