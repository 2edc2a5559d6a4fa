/- The factorization of a product combines the factorizations of both factors. No condition. -/
import Derived.Test.YtjlcbejgmjiffaaWalkMod
import Derived.ProofKit
import Derived.OpenShut
namespace Go.Proofs.Ytjlcbejgmjiffaa.primeJoins
open Go.ChangeShapes Go.WideShapes Go.ChangeAt Go.RowKit

theorem own : ownKnob Try.prog.godebug = none := by kernel_rfl


def expOf : List (Nat × Nat) → Nat → Nat
  | [], _ => 0
  | x :: l, p => (if x.1 = p then x.2 else 0) + expOf l p

theorem expOf_append (l l' : List (Nat × Nat)) (p : Nat) : expOf (l ++ l') p = expOf l p + expOf l' p := by
  induction l with
  | nil => simp [expOf]
  | cons x l ih => rw [List.cons_append, expOf, ih, expOf]; omega

theorem expOf_take (l : List (Nat × Nat)) (k p : Nat) (h : k < l.length) : expOf (l.take (k + 1)) p = expOf (l.take k) p + if l[k].1 = p then l[k].2 else 0 := by
  rw [List.take_succ_eq_append_getElem h, expOf_append]; simp [expOf]

theorem expOf_gt {lo p : Nat} {l : List (Nat × Nat)} (h : M.FacFrom lo l) (hp : p ≤ lo) : expOf l p = 0 := by
  induction l generalizing lo with
  | nil => rfl
  | cons x l ih =>
    have h1 := h.1
    rw [expOf, if_neg (by omega), ih h.2.2.2 (by omega)]

theorem expOf_strip {lo p : Nat} {l : List (Nat × Nat)} (h : M.FacFrom lo l) (hp : M.Pr p) : ∃ r, M.prodP l = p ^ expOf l p * r ∧ ¬ p ∣ r := by
  induction l generalizing lo with
  | nil => exact ⟨1, by simp [M.prodP, expOf], fun hd => by have := Nat.le_of_dvd (by omega) hd; have := hp.1; omega⟩
  | cons x l ih =>
    obtain ⟨r, h1, h2⟩ := ih h.2.2.2
    by_cases hx : x.1 = p
    · refine ⟨r, ?_, h2⟩
      have h0 : expOf l p = 0 := expOf_gt h.2.2.2 (by omega)
      rw [h0] at h1
      rw [M.prodP, h1, expOf, if_pos hx, h0, hx]; simp
    · refine ⟨x.1 ^ x.2 * r, ?_, ?_⟩
      · rw [M.prodP, h1, expOf, if_neg hx, Nat.zero_add]; ac_rfl
      · intro hd
        rcases hp.dvd_mul hd with h3 | h3
        · have h4 := hp.dvd_pow h3
          rcases h.2.1.2 p h4 with h5 | h5
          · have := hp.1; omega
          · exact hx h5.symm
        · exact h2 h3

theorem exps_join {a b : Nat} {L1 L2 L3 : List (Nat × Nat)} (h1 : M.IsFac a L1) (h2 : M.IsFac b L2) (h3 : M.IsFac (a * b) L3) {p : Nat} (hp : M.Pr p) : expOf L1 p + expOf L2 p = expOf L3 p := by
  obtain ⟨r1, e1, n1⟩ := expOf_strip h1.1 hp
  obtain ⟨r2, e2, n2⟩ := expOf_strip h2.1 hp
  obtain ⟨r3, e3, n3⟩ := expOf_strip h3.1 hp
  rw [h1.2] at e1
  rw [h2.2] at e2
  rw [h3.2] at e3
  have h : p ^ (expOf L1 p + expOf L2 p) * (r1 * r2) = p ^ expOf L3 p * r3 := by
    rw [← e3, e1, e2, Nat.pow_add]
    generalize expOf L1 p = x
    generalize expOf L2 p = y
    ac_rfl
  exact (M.strip_unique hp.1 h (fun hd => by rcases hp.dvd_mul hd with h4 | h4 <;> contradiction) n3).1

theorem expOf_self {lo : Nat} {l : List (Nat × Nat)} (h : M.FacFrom lo l) {i : Nat} (hi : i < l.length) : expOf l l[i].1 = l[i].2 := by
  induction l generalizing lo i with
  | nil => simp at hi
  | cons x l ih =>
    cases i with
    | zero =>
      simp only [List.getElem_cons_zero]
      rw [expOf, if_pos rfl, expOf_gt h.2.2.2 (Nat.le_refl _), Nat.add_zero]
    | succ i =>
      simp only [List.getElem_cons_succ]
      have hi' : i < l.length := by simpa using hi
      have hg := (h.2.2.2.gt l[i] (List.getElem_mem hi')).1
      rw [expOf, if_neg (by omega), ih h.2.2.2 hi', Nat.zero_add]

theorem expOf_le {lo n p : Nat} {l : List (Nat × Nat)} (h : M.FacFrom lo l) (hp : M.Pr p) (hn : M.prodP l ≤ n) (hn2 : n ≤ 2147483647) (k : Nat) : expOf (l.take k) p ≤ 30 := by
  obtain ⟨r, h1, h2⟩ := expOf_strip (h.take k) hp
  have h3 : M.prodP l = M.prodP (l.take k) * M.prodP (l.drop k) := by rw [← M.prodP_append, List.take_append_drop]
  have h4 := (h.drop k).pos
  have h5 : M.prodP (l.take k) * 1 ≤ M.prodP (l.take k) * M.prodP (l.drop k) := Nat.mul_le_mul_left _ h4
  have h6 := (h.take k).pos
  have h7 : 1 ≤ r := by apply Nat.pos_of_ne_zero; intro e; subst e; omega
  have h8 : p ^ expOf (l.take k) p * 1 ≤ p ^ expOf (l.take k) p * r := Nat.mul_le_mul_left _ h7
  have h9 : 2 ^ expOf (l.take k) p ≤ p ^ expOf (l.take k) p := Nat.pow_le_pow_left hp.1 _
  exact M.lt_of_two_pow (n := n) (by omega) hn2

theorem asc_get {lo : Nat} {l : List (Nat × Nat)} (h : M.FacFrom lo l) {i : Nat} (hi : i + 1 < l.length) : l[i].1 < l[i + 1].1 := by
  induction l generalizing lo i with
  | nil => simp at hi
  | cons x l ih =>
    cases i with
    | zero =>
      simp only [List.getElem_cons_zero, List.getElem_cons_succ]
      exact (h.2.2.2.gt _ (List.getElem_mem (by simpa using hi))).1
    | succ i =>
      simp only [List.getElem_cons_succ]
      exact ih h.2.2.2 (by simpa using hi)

/-- What is multiplied together again, never more than the whole. -/
theorem prod_part {lo : Nat} {l : List (Nat × Nat)} (h : M.FacFrom lo l) {i : Nat} (hi : i < l.length) {k : Nat} (hk : k ≤ l[i].2) : M.prodP (l.take i) * l[i].1 ^ k ≤ M.prodP l := by
  have h1 : M.prodP l = M.prodP (l.take i) * M.prodP (l.drop i) := by rw [← M.prodP_append, List.take_append_drop]
  have h2 : l.drop i = l[i] :: l.drop (i + 1) := List.drop_eq_getElem_cons hi
  have hg := h.gt l[i] (List.getElem_mem hi)
  rw [h1, h2, M.prodP]
  refine Nat.mul_le_mul_left _ ?_
  have h3 : l[i].1 ^ k ≤ l[i].1 ^ l[i].2 := Nat.pow_le_pow_right (by have := hg.2.1.1; omega) hk
  have h4 : l[i].1 ^ l[i].2 * 1 ≤ l[i].1 ^ l[i].2 * M.prodP (l.drop (i + 1)) := Nat.mul_le_mul_left _ (h.drop (i + 1)).pos
  omega

theorem prod_take {l : List (Nat × Nat)} {i : Nat} (hi : i < l.length) : M.prodP (l.take (i + 1)) = M.prodP (l.take i) * l[i].1 ^ l[i].2 := by
  rw [List.take_succ_eq_append_getElem hi, M.prodP_append]; simp [M.prodP]

/-- The two cells of an entry. -/
structure Has (w : World) (a : Option Addr) (l : List (Nat × Nat)) (k : Nat) (h : k < l.length) (b : Nat) : Prop where
  eq : a = some ⟨b, 0, none⟩
  c0 : w.cell? ⟨b, k * 2, none⟩ = some (.int .i64 (l[k].1 : Int))
  c1 : w.cell? ⟨b, k * 2 + 1, none⟩ = some (.int .i64 (l[k].2 : Int))

theorem has_of {w w' : World} {a : Option Addr} {l : List (Nat × Nat)} (hc : l.length = 0 ∨ ∃ b, a = some ⟨b, 0, none⟩ ∧ b < w.heap.size ∧ ∀ j u, (flat l)[j]? = some u → w.cell? ⟨b, j, none⟩ = some u) (hB : Below w.heap.size w w') (k : Nat) (h : k < l.length) : ∃ b, Has w' a l k h b := by
  rcases hc with h0 | ⟨b, rfl, hb, hcell⟩
  · omega
  · have hf := flat_get l k h
    exact ⟨b, rfl, by rw [hB.cell (p := ⟨b, k * 2, none⟩) hb]; exact hcell _ _ hf.1, by rw [hB.cell (p := ⟨b, k * 2 + 1, none⟩) hb]; exact hcell _ _ hf.2⟩

set_option maxRecDepth 100000 in
set_option maxHeartbeats 4000000 in
theorem walk (a b : Int) (_wa : (Lit.int .i64 a).wf = true) (_wb : (Lit.int .i64 b).wf = true) (w : World) : Calls Try.prog 12 #[.int .i64 a, .int .i64 b] w fun e w' => e = .returned (.bool true) ∧ Below w.heap.size w w' := by
  have hna := numv_bd a 40000 (by omega)
  have hnb := numv_bd b 40000 (by omega)
  obtain ⟨A, hA⟩ := Int.eq_ofNat_of_zero_le (show 0 ≤ numv a 40000 by omega)
  obtain ⟨B, hB⟩ := Int.eq_ofNat_of_zero_le (show 0 ≤ numv b 40000 by omega)
  rw [hA] at hna
  rw [hB] at hnb
  have HNA := Lib.hid hA
  have HNB := Lib.hid hB
  clear hA hB
  have hAB1 : 1 ≤ A * B := Nat.mul_pos (by omega) (by omega)
  have hAB2 : A * B ≤ 1600000000 := Nat.mul_le_mul (show A ≤ 40000 by omega) (show B ≤ 40000 by omega)
  obtain ⟨L1, hL1'⟩ := M.exists_fac A (by omega)
  obtain ⟨L2, hL2'⟩ := M.exists_fac B (by omega)
  obtain ⟨L3, hL3'⟩ := M.exists_fac (A * B) (by omega)
  have hL1 : Hid (M.IsFac (A : Int).toNat L1) := by rw [Int.toNat_natCast]; exact hL1'
  have hL2 : Hid (M.IsFac (B : Int).toNat L2) := by rw [Int.toNat_natCast]; exact hL2'
  have hL3 : Hid (M.IsFac ((A * B : Nat) : Int).toNat L3) := by rw [Int.toNat_natCast]; exact hL3'
  have F1 := Lib.hid hL1'
  have F2 := Lib.hid hL2'
  have F3 := Lib.hid hL3'
  have len1 : L1.length ≤ 30 := hL1'.1.length_le (by rw [hL1'.2]; omega)
  have len2 : L2.length ≤ 30 := hL2'.1.length_le (by rw [hL2'.2]; omega)
  have len3 : L3.length ≤ 30 := hL3'.1.length_le (by rw [hL3'.2]; omega)
  have hmul : 0 ≤ (A : Int) * (B : Int) ∧ (A : Int) * (B : Int) ≤ 1600000000 := by
    rw [show (A : Int) * (B : Int) = ((A * B : Nat) : Int) by simp]; omega
  clear hL1' hL2' hL3'
  go_enter Try.func12, Try.ntmps12
  go_wp2_with (fail)
  refine (number_is a 40000 _ (by omega) (by omega)).mono ?_
  rintro e w' ⟨rfl, rfl⟩
  rw [HNA.out]
  go_wp2_with (fail)
  refine (number_is b 40000 _ (by omega) (by omega)).mono ?_
  rintro e w' ⟨rfl, rfl⟩
  rw [HNB.out]
  go_wp2_with (fail)
  refine (Factor_yes A L1 _ (by omega) (by omega) hL1).mono ?_
  rintro e w1 ⟨⟨v1, rfl, hown⟩, hB⟩
  have hrd := Rd.of_own hown
  have HB1 := Lib.hid hB
  clear hown hB
  obtain ⟨_, a1, cap1, rfl, hcap1, hcell⟩ := hrd
  have HC1 := Lib.hid hcell
  clear hcell
  go_wp2_with (fail)
  refine (Factor_yes B L2 _ (by omega) (by omega) hL2).mono ?_
  rintro e w2 ⟨⟨v2, rfl, hown⟩, hB⟩
  have hrd := Rd.of_own hown
  have HB2 := Lib.hid hB
  clear hown hB
  obtain ⟨_, a2, cap2, rfl, hcap2, hcell⟩ := hrd
  have HC2 := Lib.hid hcell
  clear hcell
  go_wp2_with (fail)
  rw [show (A : Int) * (B : Int) = ((A * B : Nat) : Int) by simp]
  refine (Factor_yes ((A * B : Nat) : Int) L3 _ (by omega) (by omega) hL3).mono ?_
  rintro e w3 ⟨⟨v3, rfl, hown⟩, hB⟩
  have hrd := Rd.of_own hown
  have HB3 := Lib.hid hB
  clear hown hB
  obtain ⟨_, a3, cap3, rfl, hcap3, hcell⟩ := hrd
  have HC3 := Lib.hid hcell
  clear hcell
  have G1 := Lib.hid (has_of HC1.out (HB2.out.trans (HB3.out.mono HB2.out.size)))
  have G2 := Lib.hid (has_of HC2.out HB3.out)
  have G3 := Lib.hid (has_of HC3.out (Below.refl _ _))
  have HBW := Lib.hid ((HB1.out.trans (HB2.out.mono HB1.out.size)).trans (HB3.out.mono (Nat.le_trans HB1.out.size HB2.out.size)))
  clear HC1 HC2 HC3 HB1 HB2 HB3
  go_wp2_with (fail)
  go_loopw [11, 12] (fun m iv wr => ∃ (i many n : Nat), iv = .int .i64 i ∧ m = .int .i64 many ∧ i ≤ L3.length ∧ 1 ≤ many ∧ many ≤ 1600000000 ∧ wr = w3.drewN n ∧ Hid (many = M.prodP (L3.take i))) (fun _ iv _ => L3.length - (intOf iv).toNat)
  case atStart => exact ⟨0, 1, 0, rfl, rfl, by omega, by omega, by omega, rfl, rfl⟩
  case round =>
    obtain ⟨i, many, n, rfl, rfl, hi, hm1, hm2, rfl, HM⟩ := hrel
    by_cases hlt : i < L3.length
    · obtain ⟨b3, hb3⟩ := G3.out i hlt
      obtain rfl := hb3.eq
      have c0 := hb3.c0
      have c1 := hb3.c1
      have hg := F3.out.1.gt L3[i] (List.getElem_mem hlt)
      have HE1 := Lib.hid (exps_join F1.out F2.out F3.out hg.2.1)
      have HE2 := Lib.hid (expOf_self F3.out.1 hlt)
      have hpart := fun (k : Nat) (hk : k ≤ L3[i].2) => prod_part F3.out.1 hlt hk
      have htake := prod_take hlt
      rw [F3.out.2] at hpart
      have hq2 := hg.2.1.1
      have HPR := Lib.hid hg.2.1
      have hex1 := hg.2.2
      have hex2 : L3[i].2 ≤ 30 := by
        have := expOf_le (p := L3[i].1) F3.out.1 hg.2.1 (n := A * B) (by rw [F3.out.2]; omega) (by omega) L3.length
        rw [List.take_length, HE2.out] at this
        exact this
      have hple : L3[i].1 ≤ 1600000000 := by
        have h1 := M.dvd_prodP (List.getElem_mem hlt) hg.2.2
        rw [F3.out.2] at h1
        have := Nat.le_of_dvd (by omega) h1
        omega
      have HASC : Hid (∀ hi : 0 < i, L3[i - 1].1 < L3[i].1) := fun h0 => by
        have := asc_get F3.out.1 (i := i - 1) (by omega)
        simp only [show i - 1 + 1 = i by omega] at this
        exact this
      clear hb3 hg
      obtain ⟨p, hp⟩ : ∃ p, p = L3[i].1 := ⟨_, rfl⟩
      obtain ⟨E3, hE3⟩ : ∃ E, E = L3[i].2 := ⟨_, rfl⟩
      rw [← hp] at c0 hq2 hple HE1 HE2 HPR hpart htake HASC
      rw [← hE3] at c1 hex1 hex2 HE2 hpart htake
      have HPE := Lib.hid (And.intro hp hE3)
      have HPART := Lib.hid hpart
      have HTAKE := Lib.hid htake
      clear hp hE3 hpart htake
      go_wp2_with (fail)
      go_loopw [13, 14] (fun ex kv wr => ∃ (k E n : Nat), kv = .int .i64 k ∧ ex = .int .i64 E ∧ k ≤ L1.length ∧ E ≤ 100 ∧ wr = w3.drewN n ∧ Hid (E = expOf (L1.take k) p)) (fun _ kv _ => L1.length - (intOf kv).toNat)
      case atStart => exact ⟨0, 0, n, rfl, rfl, by omega, by omega, rfl, rfl⟩
      case round =>
        obtain ⟨k, E, n, rfl, rfl, hk, hE, rfl, HX⟩ := hrel
        by_cases hkl : k < L1.length
        · obtain ⟨b1, hb1⟩ := G1.out k hkl
          obtain rfl := hb1.eq
          have d0 := hb1.c0
          have d1 := hb1.c1
          have hnew := expOf_take L1 k p hkl
          rw [← HX.out] at hnew
          have hle := expOf_le (p := p) F1.out.1 HPR.out (n := A) (by rw [F1.out.2]; omega) (by omega) (k + 1)
          rw [hnew] at hle
          obtain ⟨q, hq⟩ : ∃ q, q = L1[k].1 := ⟨_, rfl⟩
          obtain ⟨e1, he1⟩ : ∃ e, e = L1[k].2 := ⟨_, rfl⟩
          rw [← hq, ← he1] at hnew hle
          rw [← hq] at d0
          rw [← he1] at d1
          have HNEW := Lib.hid hnew
          clear hnew hq he1 hb1
          by_cases hqp : q = p
          · have ht : ((q : Int) == (p : Int)) = true := by simp [hqp]
            have ht2 : (q == p) = true := by simp [hqp]
            rw [if_pos hqp] at hle
            have HQ := Lib.hid hqp
            clear hqp
            go_wp2_with (fail)
            go_quiet (fail)
            go_wp2_with (fail)
            go_roundw
            case rel => exact ⟨k + 1, E + e1, _, by go_num, by go_num, by omega, by omega, rfl, by have := HNEW.out; rw [if_pos HQ.out] at this; exact this.symm⟩
            case measure => simp [intOf]; omega
          · have ht : ((q : Int) == (p : Int)) = false := by simp; omega
            have ht2 : (q == p) = false := by simpa using hqp
            have HQ := Lib.hid hqp
            clear hqp
            go_wp2_with (fail)
            go_quiet (fail)
            go_wp2_with (fail)
            go_roundw
            case rel => exact ⟨k + 1, E, _, by go_num, rfl, by omega, by omega, rfl, by have := HNEW.out; rw [if_neg HQ.out] at this; exact this.symm⟩
            case measure => simp [intOf]; omega
        · obtain rfl : k = L1.length := by omega
          have HX1 : Hid (E = expOf L1 p) := by have := HX.out; rw [List.take_length] at this; exact this
          clear HX
          go_wp2_with (fail)
          obtain ⟨E1, hE1⟩ : ∃ E1, E1 = E := ⟨_, rfl⟩
          obtain rfl := hE1
          obtain ⟨n1, hn1⟩ : ∃ n1, n1 = n := ⟨_, rfl⟩
          obtain rfl := hn1
          have hE30 : E1 ≤ 30 := by
            have := expOf_le (p := p) F1.out.1 HPR.out (n := A) (by rw [F1.out.2]; omega) (by omega) L1.length
            rw [List.take_length, ← HX1.out] at this
            exact this
          go_loopw [13, 15] (fun ex kv wr => ∃ (k E n : Nat), kv = .int .i64 k ∧ ex = .int .i64 E ∧ k ≤ L2.length ∧ E ≤ 100 ∧ wr = w3.drewN n ∧ Hid (E = E1 + expOf (L2.take k) p)) (fun _ kv _ => L2.length - (intOf kv).toNat)
          case atStart => exact ⟨0, E1, n1, rfl, rfl, by omega, by omega, rfl, rfl⟩
          case round =>
            obtain ⟨k, E, n, rfl, rfl, hk, hE, rfl, HY⟩ := hrel
            by_cases hkl : k < L2.length
            · obtain ⟨b2, hb2⟩ := G2.out k hkl
              obtain rfl := hb2.eq
              have d0 := hb2.c0
              have d1 := hb2.c1
              have hnew := expOf_take L2 k p hkl
              have hle := expOf_le (p := p) F2.out.1 HPR.out (n := B) (by rw [F2.out.2]; omega) (by omega) (k + 1)
              have hE2 : E ≤ 60 := by have h1 := HY.out; have h2 := expOf_le (p := p) F2.out.1 HPR.out (n := B) (by rw [F2.out.2]; omega) (by omega) k; omega
              rw [hnew] at hle
              obtain ⟨q, hq⟩ : ∃ q, q = L2[k].1 := ⟨_, rfl⟩
              obtain ⟨e1, he1⟩ : ∃ e, e = L2[k].2 := ⟨_, rfl⟩
              rw [← hq, ← he1] at hnew hle
              rw [← hq] at d0
              rw [← he1] at d1
              have HNEW := Lib.hid hnew
              clear hnew hq he1 hb2
              by_cases hqp : q = p
              · have ht : ((q : Int) == (p : Int)) = true := by simp [hqp]
                have ht2 : (q == p) = true := by simp [hqp]
                rw [if_pos hqp] at hle
                have HQ := Lib.hid hqp
                clear hqp
                go_wp2_with (fail)
                go_quiet (fail)
                go_wp2_with (fail)
                go_roundw
                case rel => exact ⟨k + 1, E + e1, _, by go_num, by go_num, by omega, by omega, rfl, by have h1 := HNEW.out; rw [if_pos HQ.out] at h1; have h2 := HY.out; show _ = _; omega⟩
                case measure => simp [intOf]; omega
              · have ht : ((q : Int) == (p : Int)) = false := by simp; omega
                have ht2 : (q == p) = false := by simpa using hqp
                have HQ := Lib.hid hqp
                clear hqp
                go_wp2_with (fail)
                go_quiet (fail)
                go_wp2_with (fail)
                go_roundw
                case rel => exact ⟨k + 1, E, _, by go_num, rfl, by omega, by omega, rfl, by have h1 := HNEW.out; rw [if_neg HQ.out] at h1; have h2 := HY.out; show _ = _; omega⟩
                case measure => simp [intOf]; omega
            · obtain rfl : k = L2.length := by omega
              have hEE : E = E3 := by
                have h1 := HY.out
                rw [List.take_length] at h1
                have h2 := HE1.out
                have h3 := HE2.out
                have h4 := HX1.out
                omega
              subst hEE
              have ht1 : ((E : Int) != (E : Int)) = false := by simp
              have ht2 : decide ((E : Int) < 1) = false := by simp; omega
              have ht3 : decide ((40 : Int) < (E : Int)) = false := by simp; omega
              clear HX1 HY
              cases i with
              | zero =>
                go_wp2_with (fail)
                go_quiet (fail)
                go_wp2_with (fail)
                go_loopw [11, 16] (fun m kv wr => ∃ (k many n : Nat), kv = .int .i64 k ∧ m = .int .i64 many ∧ k ≤ E ∧ 1 ≤ many ∧ many ≤ 1600000000 ∧ wr = w3.drewN n ∧ Hid (many = M.prodP (L3.take 0) * p ^ k)) (fun _ kv _ => E - (intOf kv).toNat)
                case atStart => exact ⟨0, many, _, rfl, rfl, by omega, by omega, by omega, World.drewN_drewN .., by show _ = _; rw [Nat.pow_zero, Nat.mul_one]; exact HM.out⟩
                case round =>
                  clear HM hm1 hm2
                  obtain ⟨k, many, n3, rfl, rfl, hk, hm1, hm2, rfl, HM⟩ := hrel
                  by_cases hkE : k < E
                  · have hle1 := HPART.out (k + 1) (by omega)
                    have hle0 := HPART.out k (by omega)
                    have hstep : many * p = M.prodP (L3.take 0) * p ^ (k + 1) := by rw [HM.out, Nat.pow_succ, Nat.mul_assoc]
                    rw [← hstep] at hle1
                    rw [← HM.out] at hle0
                    have HST := Lib.hid hstep
                    clear hstep
                    have hmp : 0 ≤ (many : Int) * (p : Int) ∧ (many : Int) * (p : Int) ≤ 1600000000 := by
                      rw [show (many : Int) * (p : Int) = ((many * p : Nat) : Int) by simp]; omega
                    have hpos : 1 ≤ many * p := Nat.mul_pos hm1 (by omega)
                    have hd1 : decide ((p : Int) < 2) = false := by simp; omega
                    have hle0' : ¬ (A : Int) * (B : Int) < (many : Int) := by
                      rw [show (A : Int) * (B : Int) = ((A * B : Nat) : Int) by simp]; omega
                    have hd2 : decide ((A : Int) * (B : Int) < (many : Int)) = false := by simpa using hle0'
                    go_wp2_with (fail)
                    go_roundw
                    case rel => exact ⟨k + 1, many * p, n3, by go_num, by simp, by omega, hpos, by omega, rfl, HST.out⟩
                    case measure => simp [intOf]; omega
                  · obtain rfl : k = E := by omega
                    have hfin : Hid (many = M.prodP (L3.take (0 + 1))) := by
                      have := HTAKE.out
                      show _ = _
                      rw [HM.out, this]
                    go_wp2_with (fail)
                    go_roundw
                    case rel => exact ⟨0 + 1, many, n3, by go_num, rfl, by omega, hm1, hm2, rfl, hfin.out⟩
                    case measure => simp [intOf]; omega
              | succ j =>
                have hasc := HASC.out (by omega)
                simp only [Nat.add_sub_cancel] at hasc
                obtain ⟨b5, hb5⟩ := G3.out j (by omega)
                have hbe := hb5.eq
                simp only [Option.some.injEq, Addr.mk.injEq, and_true] at hbe
                subst hbe
                have c4 := hb5.c0
                clear hb5
                obtain ⟨p', hp'⟩ : ∃ p', p' = L3[j].1 := ⟨_, rfl⟩
                rw [← hp'] at c4 hasc
                clear hp'
                have ht4 : decide (p ≤ p') = false := by simp; omega
                have ht5 : decide ((p : Int) ≤ (p' : Int)) = false := by simp; omega
                have hw1 : IntKind.i64.wrap ((j : Int) + 1 - 1) = (j : Int) := by rw [show (j : Int) + 1 - 1 = (j : Int) by omega]; exact IntWalk.i64_in _ (by omega)
                go_wp2_with (fail)
                go_quiet (fail)
                go_wp2_with (fail)
                go_loopw [11, 16] (fun m kv wr => ∃ (k many n : Nat), kv = .int .i64 k ∧ m = .int .i64 many ∧ k ≤ E ∧ 1 ≤ many ∧ many ≤ 1600000000 ∧ wr = w3.drewN n ∧ Hid (many = M.prodP (L3.take (j + 1)) * p ^ k)) (fun _ kv _ => E - (intOf kv).toNat)
                case atStart => exact ⟨0, many, _, rfl, rfl, by omega, by omega, by omega, World.drewN_drewN .., by show _ = _; rw [Nat.pow_zero, Nat.mul_one]; exact HM.out⟩
                case round =>
                  clear HM hm1 hm2
                  obtain ⟨k, many, n3, rfl, rfl, hk, hm1, hm2, rfl, HM⟩ := hrel
                  by_cases hkE : k < E
                  · have hle1 := HPART.out (k + 1) (by omega)
                    have hle0 := HPART.out k (by omega)
                    have hstep : many * p = M.prodP (L3.take (j + 1)) * p ^ (k + 1) := by rw [HM.out, Nat.pow_succ, Nat.mul_assoc]
                    rw [← hstep] at hle1
                    rw [← HM.out] at hle0
                    have HST := Lib.hid hstep
                    clear hstep
                    have hmp : 0 ≤ (many : Int) * (p : Int) ∧ (many : Int) * (p : Int) ≤ 1600000000 := by
                      rw [show (many : Int) * (p : Int) = ((many * p : Nat) : Int) by simp]; omega
                    have hpos : 1 ≤ many * p := Nat.mul_pos hm1 (by omega)
                    have hd1 : decide ((p : Int) < 2) = false := by simp; omega
                    have hle0' : ¬ (A : Int) * (B : Int) < (many : Int) := by
                      rw [show (A : Int) * (B : Int) = ((A * B : Nat) : Int) by simp]; omega
                    have hd2 : decide ((A : Int) * (B : Int) < (many : Int)) = false := by simpa using hle0'
                    go_wp2_with (fail)
                    go_roundw
                    case rel => exact ⟨k + 1, many * p, n3, by go_num, by simp, by omega, hpos, by omega, rfl, HST.out⟩
                    case measure => simp [intOf]; omega
                  · obtain rfl : k = E := by omega
                    have hfin : Hid (many = M.prodP (L3.take ((j + 1) + 1))) := by
                      have := HTAKE.out
                      show _ = _
                      rw [HM.out, this]
                    go_wp2_with (fail)
                    go_roundw
                    case rel => exact ⟨(j + 1) + 1, many, n3, by go_num, rfl, by omega, hm1, hm2, rfl, hfin.out⟩
                    case measure => simp [intOf]; omega
    · obtain rfl : i = L3.length := by omega
      have hmm : Hid (many = A * B) := by have := HM.out; rw [List.take_length, F3.out.2] at this; exact this
      have ht : ((many : Int) == (A : Int) * (B : Int)) = true := by rw [beq_iff_eq, hmm.out]; simp
      go_wp2_with (go_at_call 19; refine (awake_is _).mono ?_; rintro e w7 ⟨rfl, hB⟩; have HB7 := Lib.hid hB; clear hB)
      go_ret
      have h1 := below_drewN HBW.out n
      exact ⟨rfl, h1.trans (HB7.out.mono h1.size)⟩


set_option maxRecDepth 100000 in
theorem lifted (os : Os) (started : os.Started) (H : Type) (enc : TypeId × Value → H) :
    ReturnsInHanded {} Try.checked os 12 .any (Rows.primeJoinsSpec.pre6 enc Try.prog Try.f12 Rows.primeJoinsRow.domain false) (Rows.primeJoinsSpec.post enc Try.prog Try.f12 false true false false) := by
  refine returnsInHanded_of_change (C := Try.checked) own started (by kernel_rfl) Try.func12
    (ChangeSpec.witness6 (enc := enc) (C := Try.checked) false ⟨#[], #[.int .i64 0, .int .i64 0], []⟩ 8 (by kernel_rfl) (by kernel_rfl) (by kernel_rfl) (by kernel_rfl)) ?_
  intro W base args ds gs before hval0 hW hcnd _
  have hval : ∀ (j : Nat) t v, Try.f12.params[j]? = some t → args[j]? = some v → Value.okWide Try.prog W .any base t v := hval0
  have hW' := hW
  obtain ⟨p, q, hA0, hV, rfl, hfz, hnd⟩ := hW
  have hA : DataW.TrodAll enc Try.prog W 0 (fun _ => true) true Try.f12.params.toList args.toList ds p := hA0
  rw [Try.params12] at hA hval
  obtain ⟨v0, vs0, d0, ds0, p0, q0, hargs, rfl, rfl, h0, r0⟩ := trodAll_cons hA
  obtain ⟨v1, vs1, d1, ds1, p1, q1, rfl, rfl, rfl, h1, r1⟩ := trodAll_cons r0
  obtain ⟨rfl, rfl, rfl⟩ := trodAll_nil r1
  obtain rfl : args = #[v0, v1] := by cases args; simp_all
  obtain ⟨rfl, rfl⟩ := trodVars_none hV
  obtain ⟨a0, rfl, rfl, rfl, w0⟩ := open_int Try.underlying3 (hval 0 3 v0 rfl rfl) h0
  obtain ⟨a1, rfl, rfl, rfl, w1⟩ := open_int Try.underlying3 (hval 1 3 v1 rfl rfl) h1
  clear hA0 hval0
  simp only [List.append_nil] at hW'
  refine (walk a0 a1 w0 w1 W).mono fun e W' ⟨he, hg⟩ => ?_
  subst he
  exact ⟨_, rfl, _, _, _, [], [], [], hW', trodAll_cons_mk (shut_bool Try.underlying4 _) trodAll_mk0, trodAll_cons_mk (shut_int Try.underlying3 w0) (trodAll_cons_mk (shut_int Try.underlying3 w1) trodAll_mk0), rfl, hg.frame _, fun h => by cases h⟩

theorem over : Rows.primeJoinsRow.holds Try.pinned (OpenSpec.ofChange Rows.primeJoinsSpec) :=
  OpenClaim.holds_of_wide 12 Try.f12 rfl rfl rfl rfl rfl rfl rfl ⟨rfl, rfl, rfl, rfl, rfl⟩ rfl rfl rfl rfl rfl (by kernel_rfl) Try.func12 (by kernel_rfl)
    (of_decide_eq_true (by kernel_rfl)) (by unfold Func.isWrapper; first | (rw [if_pos (by decide +kernel)]; kernel_rfl) | (rw [if_neg (by decide +kernel)]; exact ⟨rfl, rfl⟩))
    (fun os started H enc _ => lifted os started H enc)

theorem proved : Rows.PrimeJoinsSaid := over

end Go.Proofs.Ytjlcbejgmjiffaa.primeJoins
