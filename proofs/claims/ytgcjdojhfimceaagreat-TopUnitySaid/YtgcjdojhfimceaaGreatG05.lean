/- Texts of the proof, laid together. -/
import Derived.Test.YtgcjdojhfimceaaGreatG04
import Derived.Test.YtgcjdojhfimceaaGreatG01
import Derived.Deep.LoopGhost
namespace Go.Proofs.YtgcjdojhfimceaaGreat
open Go.RowKit

theorem phi_prime (p : Nat) : M.phiP [(p, 1)] = p - 1 := by simp [M.phiP]
theorem fac_prime {p : Nat} (hp : M.Pr p) : M.IsFac p [(p, 1)] := ⟨⟨by have := hp.1; show 1 < p; omega, hp, Nat.le_refl _, trivial⟩, by simp [M.prodP]⟩

/-- orderOf, for a prime. -/
theorem orderOf_prime (g p o : Nat) (w : World) (hp : Hid (M.Pr p)) (hp2 : p ≤ 2147483647) (hg : g < p) (ho : Hid (M.IsOrd g o p)) :
    Calls Tryz.prog 17 #[.int .i64 g, .int .i64 p] w fun x w' => x = .returned (.int .i64 (o : Int)) ∧ Below w.heap.size w w' := by
  have h2 := hp.out.1
  obtain ⟨L2, hL2⟩ := M.exists_fac (p - 1) (by omega)
  exact orderOf_any g p o [(p, 1)] L2 w (by omega) (by omega) (by omega) (by rw [Int.toNat_natCast]; exact fac_prime hp.out) (by rw [phi_prime]; exact hL2) (by rw [Int.toNat_natCast, Int.toNat_natCast]; exact ho.out)

def IsLogArg (g a p : Int) : Prop := 1 ≤ g ∧ g < p ∧ 1 ≤ a ∧ a < p ∧ PrI p

def ints (Q : List Nat) : List Value := Q.map fun (q : Nat) => Value.int .i64 (q : Int)
theorem ints_get (Q : List Nat) (k : Nat) (h : k < Q.length) : (ints Q)[k]? = some (.int .i64 (Q[k] : Int)) := by simp [ints, h]
theorem heads_ints (L : List (Nat × Nat)) : heads L = ints (L.map (·.1)) := by simp [heads, ints]

/-- No power of g with the exponent (p - 1) / q is 1 modulo p. -/
def genB (g p : Nat) (Q : List Nat) : Bool := Q.all fun q => g ^ ((p - 1) / q) % p != 1

set_option maxRecDepth 100000 in
set_option maxHeartbeats 1000000 in
theorem generates_is (g p : Nat) (v : Value) (Q : List Nat) (t : Bool) (w : World) (hr : Hid (Rd w v 1 Q.length (ints Q))) (hp : 1 ≤ p) (hg : g < p) (hp2 : p ≤ 2147483647) (hlen : Q.length ≤ 1000000) (hQ : Hid (∀ q ∈ Q, 1 ≤ q ∧ q ≤ 2147483647)) (ht : Hid (genB g p Q = t)) :
    Calls Tryz.prog 79 #[.int .i64 g, .int .i64 p, v] w fun x w' => x = .returned (.bool t) ∧ w = w' := by
  obtain ⟨hfl, a, cap, rfl, hcap, hcell⟩ := hr.out
  have HC := Lib.hid hcell
  clear hcell hfl hr
  go_enter Tryz.func79, Tryz.ntmps79
  go_wp2_with (fail)
  go_loop [11] (fun i => ∃ (k : Nat), i = .int .i64 k ∧ k ≤ Q.length ∧ Hid (∀ j (h : j < Q.length), j < k → g ^ ((p - 1) / Q[j]) % p ≠ 1)) (fun i => Q.length - (intOf i).toNat)
  case atStart => exact ⟨0, rfl, by omega, fun j _ hj => by omega⟩
  case round =>
    obtain ⟨k, rfl, hk, HK⟩ := hrel
    by_cases hlt : k < Q.length
    · rcases HC.out with h0 | ⟨b, rfl, hb, hcell⟩
      · omega
      have c0 : w.cell? ⟨b, k, none⟩ = some (.int .i64 (Q[k] : Int)) := hcell _ _ (ints_get Q k hlt)
      clear hcell
      have hq := hQ.out Q[k] (List.getElem_mem hlt)
      obtain ⟨q, hqe⟩ : ∃ q, q = Q[k] := ⟨_, rfl⟩
      rw [← hqe] at c0 hq
      obtain ⟨S, hS⟩ : ∃ S, g ^ ((p - 1) / q) % p = S := ⟨_, rfl⟩
      have HS := Lib.hid hS
      have HQE := Lib.hid hqe
      clear hS hqe
      have hpq : ((p : Int) - 1) / (q : Int) = (((p - 1) / q : Nat) : Int) := by
        rw [show ((p : Int) - 1) = ((p - 1 : Nat) : Int) by omega]; rfl
      have HPQ := Lib.hid hpq
      have hqb : (p - 1) / q ≤ p - 1 := Nat.div_le_self _ _
      clear hpq
      by_cases h1 : S = 1
      · have hf : t = false := by
          rw [← ht.out, genB, List.all_eq_false]
          exact ⟨Q[k], List.getElem_mem hlt, by rw [← HQE.out, HS.out, h1]; simp⟩
        have HF := Lib.hid hf
        have hS1 : ((S : Int) == 1) = true := by simp [h1]
        clear h1 hf
        go_wp2_with (fail)
        rw [HPQ.out]
        refine (raise_isP g ((p - 1) / q) p S _ (by omega) (by omega) (by omega) HS).mono ?_
        rintro e w' ⟨rfl, rfl⟩
        go_wp2_with (fail)
        go_ret
        exact ⟨ret_b HF.out.symm, rfl⟩
      · have hS1 : ((S : Int) == 1) = false := by simp; omega
        have HN := Lib.hid h1
        clear h1
        go_wp2_with (fail)
        rw [HPQ.out]
        refine (raise_isP g ((p - 1) / q) p S _ (by omega) (by omega) (by omega) HS).mono ?_
        rintro e w' ⟨rfl, rfl⟩
        go_wp2_with (fail)
        go_round
        case rel =>
          refine ⟨k + 1, by go_num, by omega, fun j hj hjk => ?_⟩
          by_cases e1 : j = k
          · subst e1; rw [← HQE.out, HS.out]; exact HN.out
          · exact HK.out j hj (by omega)
        case measure => simp [intOf]; omega
    · obtain rfl : k = Q.length := by omega
      have hf : t = true := by
        rw [← ht.out, genB, List.all_eq_true]
        intro q hq
        obtain ⟨j, hj, rfl⟩ := List.getElem_of_mem hq
        simpa using HK.out j hj hj
      have HF := Lib.hid hf
      clear hf
      go_wp2_with (fail)
      go_ret
      exact ⟨ret_b HF.out.symm, rfl⟩

set_option maxRecDepth 100000 in
set_option maxHeartbeats 1000000 in
theorem leastGenerator_is (p G : Nat) (v : Value) (Q : List Nat) (w : World) (hr : Hid (Rd w v 1 Q.length (ints Q))) (hp2 : p ≤ 2147483647) (hlen : Q.length ≤ 1000000) (hQ : Hid (∀ q ∈ Q, 1 ≤ q ∧ q ≤ 2147483647)) (hG1 : 1 ≤ G) (hG2 : G < p) (hG : Hid (genB G p Q = true ∧ ∀ g, 1 ≤ g → g < G → genB g p Q = false)) :
    Calls Tryz.prog 61 #[.int .i64 p, v] w fun x w' => x = .returned (.int .i64 G) ∧ w = w' := by
  go_enter Tryz.func61, Tryz.ntmps61
  go_wp2_with (fail)
  go_step3
  go_wp2_with (fail)
  try go_step3
  go_wp2_with (fail)
  go_loop [5] (fun x => ∃ g : Nat, x = .int .i64 g ∧ 1 ≤ g ∧ g ≤ G) (fun x => G - (intOf x).toNat)
  case atStart => exact ⟨1, rfl, by omega, by omega⟩
  case round =>
    obtain ⟨g, rfl, hg1, hg2⟩ := hrel
    by_cases hlt : g < G
    · have ht : Hid (genB g p Q = false) := hG.out.2 g hg1 hlt
      go_wp2_with (go_at_call 79; refine (generates_is g p v Q false _ hr (by omega) (by omega) (by omega) hlen hQ ht).mono ?_; rintro e w' ⟨rfl, rfl⟩)
      go_round
      case rel => exact ⟨g + 1, by go_num, by omega, by omega⟩
      case measure => simp [intOf]; omega
    · obtain rfl : g = G := by omega
      have ht : Hid (genB g p Q = true) := hG.out.1
      go_wp2_with (go_at_call 79; refine (generates_is g p v Q true _ hr (by omega) (by omega) (by omega) hlen hQ ht).mono ?_; rintro e w' ⟨rfl, rfl⟩)
      try rw [Exit.noGoto_ret]
      go_ret
      exact ⟨rfl, rfl⟩

theorem least_gen {p : Nat} (hp : M.Pr p) {L : List (Nat × Nat)} (hL : M.IsFac (p - 1) L) : ∃ G, 1 ≤ G ∧ G < p ∧ genB G p (L.map (·.1)) = true ∧ ∀ g, 1 ≤ g → g < G → genB g p (L.map (·.1)) = false := by
  obtain ⟨G, h1, h2, h3⟩ := M.exists_gen hp
  have hG : genB G p (L.map (·.1)) = true := by
    rw [genB, List.all_eq_true]
    intro q hq
    obtain ⟨x, hx, rfl⟩ := List.mem_map.1 hq
    have hg := hL.1.gt x hx
    simpa using h3 x.1 hg.2.1 (by have := M.dvd_prodP hx hg.2.2; rwa [hL.2] at this)
  suffices H : ∀ b G, G ≤ b → 1 ≤ G → G < p → genB G p (L.map (·.1)) = true → ∃ G, 1 ≤ G ∧ G < p ∧ genB G p (L.map (·.1)) = true ∧ ∀ g, 1 ≤ g → g < G → genB g p (L.map (·.1)) = false from H G G (Nat.le_refl _) h1 h2 hG
  intro b
  induction b with
  | zero => intro G h0 h1; omega
  | succ b ih =>
    intro G hb h1 h2 hG
    by_cases h : ∃ g, 1 ≤ g ∧ g < G ∧ genB g p (L.map (·.1)) = true
    · obtain ⟨g, hg1, hg2, hg3⟩ := h
      exact ih g (by omega) hg1 (by omega) hg3
    · exact ⟨G, h1, h2, hG, fun g hg1 hg2 => by
        rw [Bool.eq_false_iff]
        exact fun hg3 => h ⟨g, hg1, hg2, hg3⟩⟩

theorem genB_iff {g p : Nat} {L : List (Nat × Nat)} (hL : M.IsFac (p - 1) L) : genB g p (L.map (·.1)) = true ↔ ∀ q, M.Pr q → q ∣ p - 1 → g ^ ((p - 1) / q) % p ≠ 1 := by
  rw [genB, List.all_eq_true]
  constructor
  · intro h q hq hd
    obtain ⟨x, hx, rfl⟩ := hL.1.mem_of_dvd hq (by rw [hL.2]; exact hd)
    simpa using h x.1 (List.mem_map.2 ⟨x, hx, rfl⟩)
  · intro h q hq
    obtain ⟨x, hx, rfl⟩ := List.mem_map.1 hq
    have hg := hL.1.gt x hx
    simpa using h x.1 hg.2.1 (by have := M.dvd_prodP hx hg.2.2; rwa [hL.2] at this)

theorem fac_small {n : Nat} {L : List (Nat × Nat)} (hL : M.IsFac n L) (hn : n ≤ 2147483647) : ∀ q ∈ L.map (·.1), 1 ≤ q ∧ q ≤ 2147483647 := by
  intro q hq
  obtain ⟨x, hx, rfl⟩ := List.mem_map.1 hq
  have hg := hL.1.gt x hx
  have h1 := M.dvd_prodP hx hg.2.2
  rw [hL.2] at h1
  have hpos := hL.1.pos
  rw [hL.2] at hpos
  have := Nat.le_of_dvd hpos h1
  exact ⟨by omega, by omega⟩

end Go.Proofs.YtgcjdojhfimceaaGreat
namespace Go.Proofs.YtgcjdojhfimceaaGreat
open Go.RowKit

def intsZ (Q : List Int) : List Value := Q.map fun q => Value.int .i64 q
theorem intsZ_get (Q : List Int) (k : Nat) (h : k < Q.length) : (intsZ Q)[k]? = some (.int .i64 Q[k]) := by simp [intsZ, h]

/-- Lists such as Common takes, but for the least common multiple. -/
def AreRests (R Q : List Int) : Prop := R.length = Q.length ∧ Q.length ≤ 32 ∧ ∀ j (h : j < Q.length) (h' : j < R.length), IsRest R[j] Q[j]

theorem gcd_is (a b g : Nat) (w : World) (ha2 : a ≤ 9223372036854775807) (hb2 : b ≤ 9223372036854775807) (hg : Hid (Nat.gcd a b = g)) :
    Calls Tryz.prog 16 #[.int .i64 a, .int .i64 b] w fun e w' => e = .returned (.int .i64 g) ∧ ∃ n, w' = w.drewN n := by
  refine (gcd_any a b w (by omega) (by omega) (by omega) (by omega)).mono fun e w' ⟨he, hn⟩ => ⟨?_, hn⟩
  rw [he, gcdI, Int.toNat_natCast, Int.toNat_natCast, hg.out]

theorem tmod_neg (D : Int) (N : Nat) (hN : 1 ≤ N) (hD : D < 0) : D.tmod N ≤ 0 ∧ -(N : Int) < D.tmod N ∧ (D.tmod N < 0 → D.tmod N + N = D % N) ∧ (D.tmod N = 0 → D % N = 0) := by
  obtain ⟨z, rfl⟩ : ∃ z, D = -z := ⟨-D, by omega⟩
  rw [Int.neg_tmod, Int.tmod_eq_emod_of_nonneg (by omega)]
  have h0 := Int.emod_nonneg z (show (N : Int) ≠ 0 by omega)
  have h1 := Int.emod_lt_of_pos z (show (0 : Int) < N by omega)
  have h2 : (-z) % (N : Int) = (-(z % N)) % N := by rw [Int.neg_emod_eq_sub_emod, Int.neg_emod_eq_sub_emod (a := z % N), Int.sub_emod, Int.sub_emod (N : Int) (z % N), Int.emod_emod]
  refine ⟨by omega, by omega, fun h => ?_, fun h => ?_⟩
  · have h3 : (-(z % (N : Int))) % (N : Int) = (-(z % (N : Int)) + N) % (N : Int) := (Int.add_emod_right ..).symm
    rw [h2, h3, Int.emod_eq_of_lt (a := -(z % (N : Int)) + N) (by omega) (by omega)]
  · rw [h2, show -(z % (N : Int)) = 0 by omega, Int.zero_emod]

def firsts (L : List (Nat × Nat)) : List Nat := L.map (·.1)
def seconds (L : List (Nat × Nat)) : List Nat := L.map (·.2)

/-- Rests and moduli such as Common takes. -/
def Valid (L : List (Nat × Nat)) : Prop := L.length ≤ 32 ∧ ∀ x ∈ L, x.1 < x.2 ∧ x.2 ≤ 2147483647

def CommonPost (o : Option (Nat × Nat)) (w : World) (e : Ending) (w' : World) : Prop :=
  (match o with
    | some (x, all) => e = .returned (.tuple #[.int .i64 x, .int .i64 all, .int .i64 0])
    | none => e = .returned (.tuple #[.int .i64 0, .int .i64 0, .int .i64 6])) ∧ ∃ n, w' = w.drewN n

theorem quot_exact {D G : Int} (h : G ∣ D) : D.tdiv G = D / G := Int.tdiv_eq_ediv_of_dvd h

end Go.Proofs.YtgcjdojhfimceaaGreat
namespace Go.Proofs.YtgcjdojhfimceaaGreat
open Go.RowKit

theorem bcell {W w1 : World} (hb : Below W.heap.size W w1) : (∀ b o, b < W.heap.size → w1.cell? ⟨b, o, none⟩ = W.cell? ⟨b, o, none⟩) ∧ (∀ b o, b < W.heap.size → w1.frozen? ⟨b, o, none⟩ = W.frozen? ⟨b, o, none⟩) :=
  ⟨fun b o h => hb.cell (p := ⟨b, o, none⟩) h, fun b o h => hb.frozen (p := ⟨b, o, none⟩) h⟩

def verdict (d : Int) (v : Value) (e : Int) : Value := .tuple #[.agg #[.int .i64 d, v], .int .i64 e]

theorem Decide_arg (n : Int) (w : World) (h : n < 1 ∨ 2147483647 < n) :
    Calls Tryz.prog 11 #[.int .i64 n] w fun x w' => x = .returned (verdict 0 (.slice none 0 0) 2) ∧ Below w.heap.size w w' := by
  go_enter Tryz.func11, Tryz.ntmps11
  go_wp2_with (go_at_call 21; refine (isNumber_no _ _ h).mono ?_; rintro e w' ⟨rfl, rfl⟩)
  exact bodyPost_ret (v := verdict 0 (.slice none 0 0) 2) (by simp [verdict, results, Tryz.results11, go_sem]) rfl ⟨rfl, (Below.refl _ _).alloc (Nat.le_refl _) _⟩

theorem Decide_one (w : World) :
    Calls Tryz.prog 11 #[.int .i64 1] w fun x w' => x = .returned (verdict 1 (.slice none 0 0) 0) ∧ Below w.heap.size w w' := by
  go_enter Tryz.func11, Tryz.ntmps11
  go_wp2_with (go_at_call 21; refine (isNumber_yes _ _ (by omega) (by omega)).mono ?_; rintro e w' ⟨rfl, rfl⟩)
  exact bodyPost_ret (v := verdict 1 (.slice none 0 0) 0) (by simp [verdict, results, Tryz.results11, go_sem]) rfl ⟨rfl, (Below.refl _ _).alloc (Nat.le_refl _) _⟩

set_option maxRecDepth 100000 in
set_option maxHeartbeats 1000000 in
theorem Decide_div (n q : Nat) (w : World) (hn : 2 ≤ n) (hn2 : n ≤ 2147483647) (hq : q < n) (hL : Hid (∃ e t, M.IsFac n ((q, e) :: t))) :
    Calls Tryz.prog 11 #[.int .i64 n] w fun x w' => x = .returned (verdict q (.slice none 0 0) 0) ∧ Below w.heap.size w w' := by
  obtain ⟨e, t, hL1⟩ := hL.out
  have HL : Hid (M.IsFac (n : Int).toNat ((q, e) :: t)) := by rw [Int.toNat_natCast]; exact hL1
  have hz : ((n : Int) == 1) = false := by simp; omega
  clear hL1 hL
  go_enter Tryz.func11, Tryz.ntmps11
  go_wp2_with (go_at_call 21; refine (isNumber_yes _ _ (by omega) (by omega)).mono ?_; rintro e w' ⟨rfl, rfl⟩)
  refine (factors_any n _ _ (by omega) (by omega) HL).mono ?_
  rintro x w1 ⟨⟨vf, rfl, hown⟩, hB1⟩
  have hrd := Rd.of_own hown
  clear hown
  obtain ⟨hfl, a, cap, rfl, hcap, hcell⟩ := hrd
  rcases hcell with h0 | ⟨b, rfl, hb, hcell⟩
  · simp at h0
  have c0 := hcell 0 (.int .i64 (q : Int)) (by simp [flat])
  obtain ⟨hc, hf⟩ := bcell hB1
  have hz1 : w.heap.size < w1.heap.size := by have := hB1.size; simp at this; omega
  have HB := Lib.hid hB1
  clear hcell hfl hB1 hcap
  simp only [List.length_cons]
  go_wp2_with (fail)
  refine bodyPost_ret (v := verdict q (.slice none 0 0) 0) (by simp [verdict, results, Tryz.results11, go_sem, hc]) rfl ⟨rfl, ?_⟩
  have h1 := ((Below.refl w.heap.size w).alloc (Nat.le_refl _) _).trans (HB.out.mono (by simp))
  repeat first | exact h1 | refine Below.setCell ?_ (by simp) _

theorem pr_of {n : Nat} (h2 : 2 ≤ n) (h : ∀ d, d < n → 2 ≤ d → n % d ≠ 0) : M.Pr n := by
  refine ⟨h2, fun d hd => ?_⟩
  have hd0 : 0 < d := Nat.pos_of_dvd_of_pos hd (by omega)
  have hle := Nat.le_of_dvd (by omega) hd
  by_cases h1 : d = 1
  · exact .inl h1
  · by_cases hn : d = n
    · exact .inr hn
    · exact absurd (Nat.mod_eq_zero_of_dvd hd) (h d (by omega) (by omega))

theorem pr2 : M.Pr 2 := pr_of (by omega) (by decide)
theorem pr3 : M.Pr 3 := pr_of (by omega) (by decide)
theorem pr7 : M.Pr 7 := pr_of (by omega) (by decide)

theorem Root27 (w : World) : Calls Tryz.prog 20 #[.int .i64 2, .int .i64 7] w fun x w' => x = .returned (.tuple #[.int .i64 3, .int .i64 0]) ∧ Below w.heap.size w w' := by
  refine (Root_ok 2 7 w (by omega) (by omega) (by omega) ⟨by omega, by omega, pr7⟩ (by decide)).mono fun x w' h => ?_
  obtain ⟨r, h1, h2, h3, h4, h5, h6⟩ := h
  have : r = 3 := by
    rcases (show r = 0 ∨ r = 1 ∨ r = 2 ∨ r = 3 by omega) with rfl | rfl | rfl | rfl
    · simp at h4
    · simp at h4
    · simp at h4
    · rfl
  subst this
  exact ⟨h1, h6⟩

theorem ord37 : M.IsOrd 3 6 7 := ⟨by omega, by decide, by
  intro k h1 h2
  have : ∀ k, k < 6 → 1 ≤ k → 3 ^ k % 7 ≠ 1 % 7 := by decide
  exact this k h2 h1⟩

theorem fac9 : M.IsFac 9 [(3, 2)] := ⟨⟨by omega, pr3, by omega, trivial⟩, rfl⟩
theorem fac12 : M.IsFac 12 [(2, 2), (3, 1)] := ⟨⟨by omega, pr2, by omega, by omega, pr3, by omega, trivial⟩, rfl⟩

end Go.Proofs.YtgcjdojhfimceaaGreat
namespace Go.Proofs.YtgcjdojhfimceaaGreat
open Go.RowKit

theorem ret_2bb {a : Int} {c d : Bool} (h : c = d) : Ending.returned (.tuple #[.int .i64 a, .bool c]) = .returned (.tuple #[.int .i64 a, .bool d]) := by rw [h]

theorem gcd_mod (all m : Nat) : gcdI (m : Int) ((all : Int) % (m : Int)) = (Nat.gcd all m : Nat) := by
  unfold gcdI
  have : ((all : Int) % (m : Int)).toNat = all % m := by exact_mod_cast Int.toNat_natCast (all % m)
  rw [this, Int.toNat_natCast, Nat.gcd_comm m, ← Nat.gcd_rec, Nat.gcd_comm]

def RefPost (o : Option (Nat × Nat)) (w : World) (e : Ending) (w' : World) : Prop :=
  (match o with
    | some (x, all) => e = .returned (.tuple #[.int .i64 x, .int .i64 all, .int .i64 0])
    | none => e = .returned (.tuple #[.int .i64 0, .int .i64 0, .int .i64 6])) ∧ ∃ n, w' = w.drewN n

/-- The reference's gap. -/
theorem far_facts {x all r m : Nat} (hm : 1 ≤ m) (hr : r < m) (ha : 1 ≤ all) :
    ∃ F : Nat, ((r : Int) - (x : Int) % (m : Int)).tmod m = (r : Int) - (x : Int) % (m : Int) ∧ ((r : Int) - (x : Int) % (m : Int) + (m : Int)) % (m : Int) = (F : Int) ∧ F < m ∧
      (((Nat.gcd all m : Nat) : Int) ∣ (r : Int) - x ↔ Nat.gcd all m ∣ F) ∧
      (((Nat.gcd all m : Nat) : Int) ∣ (r : Int) - x → ((m / Nat.gcd all m : Nat) : Int) ∣ ((F / Nat.gcd all m : Nat) : Int) - ((r : Int) - x) / ((Nat.gcd all m : Nat) : Int)) := by
  have h0 := Int.emod_nonneg (x : Int) (show (m : Int) ≠ 0 by omega)
  have h1 := Int.emod_lt_of_pos (x : Int) (show (0 : Int) < m by omega)
  have h2 := Int.emod_nonneg ((r : Int) - (x : Int) % (m : Int) + (m : Int)) (show (m : Int) ≠ 0 by omega)
  have h3 := Int.emod_lt_of_pos ((r : Int) - (x : Int) % (m : Int) + (m : Int)) (show (0 : Int) < m by omega)
  obtain ⟨F, hF⟩ := Int.eq_ofNat_of_zero_le h2
  have hdiff : (m : Int) ∣ (F : Int) - ((r : Int) - x) := by
    have e1 := Int.mul_ediv_add_emod ((r : Int) - (x : Int) % (m : Int) + (m : Int)) m
    have e2 := Int.mul_ediv_add_emod (x : Int) m
    rw [hF] at e1
    generalize ((r : Int) - (x : Int) % (m : Int) + (m : Int)) / (m : Int) = c at e1
    generalize (x : Int) / (m : Int) = d at e2
    refine ⟨1 - c + d, ?_⟩
    grind
  obtain ⟨g1, _, e2, _, hN1, _, _⟩ := M.gcd_parts (all := all) (m := m) ha hm
  have hgm : ((Nat.gcd all m : Nat) : Int) ∣ (m : Int) := Int.natCast_dvd_natCast.2 (Nat.gcd_dvd_right all m)
  refine ⟨F, ?_, hF, by omega, ?_, ?_⟩
  · by_cases hn : 0 ≤ (r : Int) - (x : Int) % (m : Int)
    · exact Int.tmod_eq_of_lt hn (by omega)
    · obtain ⟨z, hz⟩ : ∃ z, (r : Int) - (x : Int) % (m : Int) = -z := ⟨-((r : Int) - (x : Int) % (m : Int)), by omega⟩
      rw [hz, Int.neg_tmod, Int.tmod_eq_of_lt (by omega) (by omega)]
  · rw [← Int.natCast_dvd_natCast]
    have hgd := Int.dvd_trans hgm hdiff
    constructor
    · intro h
      have := Int.dvd_add hgd h
      rwa [Int.sub_add_cancel] at this
    · intro h
      have := Int.dvd_sub h hgd
      rwa [show (F : Int) - ((F : Int) - ((r : Int) - x)) = (r : Int) - x by omega] at this
  · intro h
    have hgd := Int.dvd_trans hgm hdiff
    have hgF : ((Nat.gcd all m : Nat) : Int) ∣ (F : Int) := by
      have := Int.dvd_add hgd h
      rwa [Int.sub_add_cancel] at this
    generalize hgg : Nat.gcd all m = g at *
    obtain ⟨c, hc⟩ := hdiff
    have hN : (m : Int) = (g : Int) * ((m / g : Nat) : Int) := by rw [← Int.natCast_mul, ← e2]
    have e3 : ((F / g : Nat) : Int) = (F : Int) / (g : Int) := rfl
    rw [e3]
    refine ⟨c, ?_⟩
    have h4 := Int.mul_ediv_cancel' hgF
    have h5 := Int.mul_ediv_cancel' h
    generalize (F : Int) / (g : Int) = y at *
    generalize ((r : Int) - x) / (g : Int) = z at *
    generalize ((m / g : Nat) : Int) = N at *
    have h6 : (g : Int) * (y - z) = (g : Int) * (N * c) := by
      rw [Int.mul_sub, h4, h5, hc, hN]; grind
    exact Int.eq_of_mul_eq_mul_left (by omega) h6

def ArgPost (w : World) (e : Ending) (w' : World) : Prop := e = .returned (.tuple #[.int .i64 0, .int .i64 0, .int .i64 2]) ∧ ∃ n, w' = w.drewN n

theorem valid_rests {L : List (Nat × Nat)} (hL : Valid L) : AreRests ((firsts L).map Int.ofNat) ((seconds L).map Int.ofNat) := by
  refine ⟨by simp [firsts, seconds], by simpa [seconds] using hL.1, fun j hj hj' => ?_⟩
  have hjl : j < L.length := by simpa [seconds] using hj
  have := hL.2 L[j] (List.getElem_mem hjl)
  simp only [firsts, seconds, List.getElem_map, IsRest]
  exact ⟨Int.natCast_nonneg _, by show ((L[j].1 : Nat) : Int) < ((L[j].2 : Nat) : Int); omega, by show ((L[j].2 : Nat) : Int) ≤ _; omega⟩

theorem intsZ_ofNat (Q : List Nat) : intsZ (Q.map Int.ofNat) = ints Q := by simp [intsZ, ints]

end Go.Proofs.YtgcjdojhfimceaaGreat
namespace Go.Proofs.YtgcjdojhfimceaaGreat
open Go.RowKit

def two64 : Int := 18446744073709551616
/-- The rest of x, read as a number without a sign. -/
def modv (x n : Int) : Int := x % two64 % n
theorem modv_bd (x n : Int) (hn : 1 ≤ n) : 0 ≤ modv x n ∧ modv x n < n := ⟨Int.emod_nonneg _ (by omega), Int.emod_lt_of_pos _ (by omega)⟩

theorem wrap_u64 (x : Int) : IntKind.u64.wrap x = x % two64 := by
  simp [IntKind.wrap, IntKind.bits, IntKind.signed, two64]

def numv (n most : Int) : Int := if 1 ≤ n ∧ n ≤ most then n else 1 + modv n most
theorem numv_bd (n most : Int) (h : 1 ≤ most) : 1 ≤ numv n most ∧ numv n most ≤ most := by
  unfold numv
  split
  · assumption
  · have := modv_bd n most h; omega

end Go.Proofs.YtgcjdojhfimceaaGreat
namespace Go.Proofs.YtgcjdojhfimceaaGreat

/-- The entry that is made for a prime. -/
structure PrEnt (E : M.Ent) (p G : Nat) (L : List (Nat × Nat)) : Prop where
  pr : M.Pr p
  small : p ≤ 2147483647
  eP : E.P = (p : Int)
  eW : E.W = (G : Int)
  eF : E.F = L.map fun x => (x.1 : Int)
  fac : M.IsFac (p - 1) L
  g1 : 1 ≤ G
  gp : G < p
  gen : genB G p (L.map (·.1)) = true

def IsEnt (E : M.Ent) : Prop := ∃ p G L, PrEnt E p G L

theorem areF_of {S : List Int} : ∀ (L : List (Nat × Nat)) (lo : Nat), M.FacFrom lo L → 1 ≤ lo → (∀ x ∈ L, (x.1 : Int) ∈ S) → M.areF S (lo : Int) (M.prodP L : Nat) (L.map fun x => (x.1 : Int)) = true
  | [], lo, _, _, _ => by simp [M.areF, M.prodP]
  | (q, e) :: L, lo, h, hlo, hS => by
    have h1 : lo < q := h.1
    have h2 : M.Pr q := h.2.1
    have h3 : 1 ≤ e := h.2.2.1
    have h4 : M.FacFrom q L := h.2.2.2
    have hq2 := h2.1
    have hpos := h4.pos
    have hprod : M.prodP ((q, e) :: L) = q ^ e * M.prodP L := rfl
    have hdvd : q ∣ M.prodP ((q, e) :: L) := by
      rw [hprod]
      obtain ⟨k, rfl⟩ : ∃ k, e = k + 1 := ⟨e - 1, by omega⟩
      exact ⟨q ^ k * M.prodP L, by rw [Nat.pow_succ]; ac_rfl⟩
    have hpos2 : 1 ≤ M.prodP ((q, e) :: L) := h.pos
    rw [List.map_cons, M.areF, if_neg]
    · have hst : M.strips (q : Int) ((M.prodP ((q, e) :: L) : Nat) : Int) = ((M.prodP L : Nat) : Int) := by
        obtain ⟨e', g1, g2, g3, _⟩ := M.strips_spec (q := (q : Int)) (n := ((M.prodP ((q, e) :: L) : Nat) : Int)) (by omega) (by omega)
        simp only [Int.toNat_natCast] at g1 g2
        have := (M.strip_unique hq2 (hprod.symm.trans g1) (M.FacFrom.not_dvd h2 h4) g2).2
        omega
      rw [hst]
      exact areF_of L q h4 (by omega) (fun x hx => hS x (List.mem_cons_of_mem _ hx))
    · rintro (h5 | h5 | h5)
      · omega
      · exact h5 (hS (q, e) (List.mem_cons_self ..))
      · exact h5 (Int.emod_eq_zero_of_dvd (by exact_mod_cast hdvd))

theorem ent_ok {E : M.Ent} {p G : Nat} {L : List (Nat × Nat)} {S : List Int} (h : PrEnt E p G L) (hS : ∀ q ∈ E.F, q ∈ S) : M.entP S E = true := by
  have hp2 := h.pr.1
  by_cases h2 : p = 2
  · subst h2
    have hL : L = [] := by
      have := h.fac
      cases L with
      | nil => rfl
      | cons x l =>
        have h1 := this.1.2.1.1
        have h3 : x.1 ∣ 1 := by
          have := M.dvd_prodP (List.mem_cons_self (a := x) (l := l)) this.1.2.2.1
          rwa [h.fac.2] at this
        have := Nat.le_of_dvd (by omega) h3
        omega
    have hG : G = 1 := by have := h.g1; have := h.gp; omega
    unfold M.entP
    rw [if_pos (by rw [h.eP]; rfl), h.eW, h.eF, hL, hG]; rfl
  · have hodd := M.odd_prime h.pr (by omega)
    have h2d : 2 ∣ p - 1 := by omega
    have pr2 : M.Pr 2 := ⟨by omega, fun d hd => by
      have h3 := Nat.le_of_dvd (by omega) hd
      have h4 : 0 < d := Nat.pos_of_dvd_of_pos hd (by omega)
      omega⟩
    have hgen := (genB_iff h.fac).1 h.gen
    have hG2 : 2 ≤ G := by
      rcases Nat.lt_or_ge G 2 with h3 | h3
      · have hG1 : G = 1 := by have := h.g1; omega
        have := hgen 2 pr2 h2d
        rw [hG1, Nat.one_pow, Nat.mod_eq_of_lt (by omega)] at this
        exact absurd rfl this
      · exact h3
    have hGp := h.gp
    unfold M.entP
    rw [h.eP, h.eW, if_neg (by omega), if_neg (by omega)]
    rw [Bool.and_eq_true, Bool.and_eq_true]
    have hp1 : ((p : Int) - 1) = ((p - 1 : Nat) : Int) := by omega
    refine ⟨?_, ?_, ?_⟩
    · rw [h.eF, hp1, ← h.fac.2]
      exact areF_of L 1 h.fac.1 (Nat.le_refl _) (fun x hx => hS _ (by rw [h.eF]; exact List.mem_map.2 ⟨x, hx, rfl⟩))
    · have hf := M.fermat h.pr (a := G) (fun hd => by have := Nat.le_of_dvd (by omega) hd; omega)
      rw [hp1]
      unfold M.powB
      rw [pw_nat, hf]; rfl
    · unfold M.gensI
      rw [h.eF, List.all_eq_true]
      intro q hq
      obtain ⟨x, hx, rfl⟩ := List.mem_map.1 hq
      have hg := h.fac.1.gt x hx
      have h5 := hgen x.1 hg.2.1 (by have := M.dvd_prodP hx hg.2.2; rwa [h.fac.2] at this)
      unfold M.powB
      rw [hp1, show (((p - 1 : Nat) : Int) / (x.1 : Int)) = (((p - 1) / x.1 : Nat) : Int) from rfl, pw_nat]
      simp only [Bool.not_eq_true', beq_eq_false_iff_ne]
      exact fun h6 => h5 (by exact_mod_cast h6)

theorem ent_lt {E : M.Ent} (h : IsEnt E) : 2 ≤ E.P ∧ E.P ≤ 2147483647 ∧ ∀ q ∈ E.F, 2 ≤ q ∧ q < E.P := by
  obtain ⟨p, G, L, h⟩ := h
  have hp2 := h.pr.1
  have := h.small
  rw [h.eP]
  refine ⟨by omega, by omega, fun q hq => ?_⟩
  rw [h.eF] at hq
  obtain ⟨x, hx, rfl⟩ := List.mem_map.1 hq
  have hg := h.fac.1.gt x hx
  have h1 := M.dvd_prodP hx hg.2.2
  rw [h.fac.2] at h1
  have h2 := Nat.le_of_dvd (by omega) h1
  omega

theorem proof_of {n : Int} : ∀ (B : List M.Ent) (last : Int) (S : List Int), (∀ E ∈ B, IsEnt E) → (∀ E ∈ B, last < E.P) → B.Pairwise (fun a b => a.P < b.P) →
    (∀ E ∈ B, ∀ q ∈ E.F, q ∈ S ∨ ∃ E' ∈ B, E'.P = q) → (∀ E ∈ B, E.P ≤ n) → (B = [] → last = n) → (B ≠ [] → ∃ E ∈ B, E.P = n) → M.proofP n last S B = true
  | [], last, S, _, _, _, _, _, h6, _ => by rw [M.proofP, h6 rfl]; simp
  | E :: B, last, S, h1, h2, h3, h4, h5, _, h7 => by
    have hE := h1 E (List.mem_cons_self ..)
    obtain ⟨hlt2, hltm, hlt⟩ := ent_lt hE
    have hP := List.pairwise_cons.1 h3
    have hin : ∀ q ∈ E.F, q ∈ S := by
      intro q hq
      rcases h4 E (List.mem_cons_self ..) q hq with h | ⟨E', hE', he⟩
      · exact h
      · have := (hlt q hq).2
        rcases List.mem_cons.1 hE' with rfl | hm
        · omega
        · have := hP.1 E' hm; omega
    obtain ⟨p, G, L, hpe⟩ := hE
    have hok := ent_ok hpe hin
    rw [M.proofP, if_neg]
    · refine proof_of B E.P (E.P :: S) (fun x hx => h1 x (List.mem_cons_of_mem _ hx)) (fun x hx => hP.1 x hx) hP.2 ?_ (fun x hx => h5 x (List.mem_cons_of_mem _ hx)) ?_ ?_
      · intro x hx q hq
        rcases h4 x (List.mem_cons_of_mem _ hx) q hq with h | ⟨E', hE', he⟩
        · exact .inl (List.mem_cons_of_mem _ h)
        · rcases List.mem_cons.1 hE' with rfl | hm
          · exact .inl (by rw [← he]; exact List.mem_cons_self ..)
          · exact .inr ⟨E', hm, he⟩
      · intro hB
        subst hB
        obtain ⟨E', hE', he⟩ := h7 (by simp)
        rcases List.mem_cons.1 hE' with rfl | hm
        · exact he
        · cases hm
      · intro hB
        obtain ⟨E', hE', he⟩ := h7 (by simp)
        rcases List.mem_cons.1 hE' with rfl | hm
        · obtain ⟨y, ys, rfl⟩ := List.exists_cons_of_ne_nil hB
          have := hP.1 y (List.mem_cons_self ..)
          have := h5 y (List.mem_cons_of_mem _ (List.mem_cons_self ..))
          omega
        · exact ⟨E', hm, he⟩
    · rintro (h | h | h)
      · have := h2 E (List.mem_cons_self ..); omega
      · have := h5 E (List.mem_cons_self ..); omega
      · rw [hok] at h; cases h

/-! ### How many entries there are -/
def wt (t : Nat) : Nat := if t = 2 then 2 else t * t
def wts : List Nat → Nat
  | [] => 1
  | t :: l => wt t * wts l

theorem wts_append (a b : List Nat) : wts (a ++ b) = wts a * wts b := by
  induction a with
  | nil => simp [wts]
  | cons x l ih => simp [wts, ih, Nat.mul_assoc]

theorem wt_two {t : Nat} (h : 2 ≤ t) : 2 ≤ wt t := by
  unfold wt; split
  · omega
  · have := Nat.mul_le_mul h h; omega

theorem wts_pow {l : List Nat} (h : ∀ x ∈ l, 2 ≤ x) : 2 ^ l.length ≤ wts l := by
  induction l with
  | nil => simp [wts]
  | cons x l ih =>
    rw [List.length_cons, Nat.pow_succ, Nat.mul_comm]
    exact Nat.mul_le_mul (wt_two (h x (List.mem_cons_self ..))) (ih fun y hy => h y (List.mem_cons_of_mem _ hy))

theorem wts_sub {a b : List Nat} (h : a.Sublist b) (hb : ∀ x ∈ b, 2 ≤ x) : wts a ≤ wts b := by
  induction h with
  | slnil => exact Nat.le_refl _
  | cons x _ ih =>
    have h1 := ih (fun y hy => hb y (List.mem_cons_of_mem _ hy))
    have h2 := wt_two (hb x (List.mem_cons_self ..))
    have h3 : 1 * wts _ ≤ wt x * wts _ := Nat.mul_le_mul (show 1 ≤ wt x by omega) h1
    simpa [wts] using h3
  | cons_cons x _ ih => exact Nat.mul_le_mul_left _ (ih fun y hy => hb y (List.mem_cons_of_mem _ hy))

theorem wts_odd : ∀ (L : List (Nat × Nat)) (lo : Nat), M.FacFrom lo L → 2 ≤ lo → wts (L.map (·.1)) ≤ M.prodP L * M.prodP L
  | [], _, _, _ => by simp [wts, M.prodP]
  | (q, e) :: L, lo, h, hlo => by
    have h1 : lo < q := h.1
    have h4 := wts_odd L q h.2.2.2 (by omega)
    have hw : wt q = q * q := by unfold wt; rw [if_neg (by omega)]
    have he : 1 ≤ e := h.2.2.1
    have hq : q ≤ q ^ e := by
      have := Nat.pow_le_pow_right (show 0 < q by omega) he
      simpa using this
    show wt q * wts (L.map (·.1)) ≤ (q ^ e * M.prodP L) * (q ^ e * M.prodP L)
    rw [hw]
    have h5 := Nat.mul_le_mul (Nat.mul_le_mul hq hq) h4
    calc _ ≤ _ := h5
      _ = _ := by ac_rfl

theorem wts_all {p : Nat} {L : List (Nat × Nat)} (hp : M.Pr p) (hL : M.IsFac (p - 1) L) : 2 * wts (L.map (·.1)) ≤ wt p := by
  have hp2 := hp.1
  by_cases h2 : p = 2
  · subst h2
    cases L with
    | nil => simp [wts, wt]
    | cons x l =>
      have h1 := hL.1.2.1.1
      have h3 : x.1 ∣ 1 := by
        have := M.dvd_prodP (List.mem_cons_self (a := x) (l := l)) hL.1.2.2.1
        rwa [hL.2] at this
      have := Nat.le_of_dvd (by omega) h3
      omega
  · have hodd := M.odd_prime hp (by omega)
    have h2d : 2 ∣ p - 1 := by omega
    have pr2 : M.Pr 2 := ⟨by omega, fun d hd => by
      have h3 := Nat.le_of_dvd (by omega) hd
      have h4 : 0 < d := Nat.pos_of_dvd_of_pos hd (by omega)
      omega⟩
    cases L with
    | nil => have := hL.2; simp [M.prodP] at this; omega
    | cons x l =>
      have hx : x.1 = 2 := by
        have := hL.1.head_le (k := 2) (by omega) (by rw [hL.2]; exact h2d)
        have := hL.1.1
        omega
      have hl := wts_odd l x.1 hL.1.2.2.2 (by omega)
      have he : 1 ≤ x.2 := hL.1.2.2.1
      have hpow : 2 ≤ 2 ^ x.2 := by
        have := Nat.pow_le_pow_right (show 0 < 2 by omega) he
        simpa using this
      have hprod : 2 ^ x.2 * M.prodP l = p - 1 := by
        have := hL.2
        rw [M.prodP, hx] at this; exact this
      have h6 : 2 * M.prodP l ≤ p - 1 := by rw [← hprod]; exact Nat.mul_le_mul_right _ hpow
      have h7 := Nat.mul_le_mul h6 h6
      have h8 : (p - 1) * (p - 1) ≤ p * p := Nat.mul_le_mul (by omega) (by omega)
      have hw : wt p = p * p := by unfold wt; rw [if_neg h2]
      have h9 : 2 * wts ((x :: l).map (·.1)) = 4 * wts (l.map (·.1)) := by
        show 2 * (wt x.1 * wts (l.map (·.1))) = _
        rw [hx]; simp [wt]; omega
      rw [hw, h9]
      have h10 : 2 * M.prodP l * (2 * M.prodP l) = 4 * (M.prodP l * M.prodP l) := by
        generalize M.prodP l = z
        rw [show (4 : Nat) = 2 * 2 from rfl]; ac_rfl
      omega

end Go.Proofs.YtgcjdojhfimceaaGreat

namespace Go.Proofs.YtgcjdojhfimceaaGreat

structure TSt (p : Nat) (T : List Nat) (i : Nat) (Es : List M.Ent) : Prop where
  nd : T.Nodup
  pr : ∀ t ∈ T, M.Pr t ∧ t ≤ p
  head : p ∈ T
  len : Es.length = i
  le : i ≤ T.length
  ents : ∀ j (h : j < Es.length) (h2 : j < T.length), IsEnt Es[j] ∧ Es[j].P = (T[j] : Int)
  closed : ∀ E ∈ Es, ∀ q ∈ E.F, ∃ t ∈ T, (t : Int) = q
  pot : 2 ^ i * wts (T.drop i) ≤ p * p

theorem TSt.start {p : Nat} (hp : M.Pr p) : TSt p [p] 0 [] := by
  have h2 := hp.1
  refine ⟨by simp, fun t ht => by simp at ht; subst ht; exact ⟨hp, Nat.le_refl _⟩, by simp, rfl, by simp, fun j h => by simp at h, by simp, ?_⟩
  have h3 : wt p ≤ p * p := by
    unfold wt; split
    · rename_i h; subst h; omega
    · exact Nat.le_refl _
  simpa [wts] using h3

theorem TSt.bound {p i : Nat} {T : List Nat} {Es : List M.Ent} (h : TSt p T i Es) (hp : p ≤ 2147483647) : T.length ≤ 62 := by
  have h1 := wts_pow (l := T.drop i) (fun x hx => (h.pr x (List.mem_of_mem_drop hx)).1.1)
  have h2 : 2 ^ i * 2 ^ (T.drop i).length ≤ p * p := Nat.le_trans (Nat.mul_le_mul_left _ h1) h.pot
  rw [← Nat.pow_add, List.length_drop, show i + (T.length - i) = T.length by have := h.le; omega] at h2
  have h3 : p * p ≤ 2147483647 * 2147483647 := Nat.mul_le_mul hp hp
  rcases Nat.lt_or_ge T.length 63 with h4 | h4
  · omega
  · have := Nat.pow_le_pow_right (show 0 < 2 by omega) h4
    omega

theorem TSt.step {p i : Nat} {T N : List Nat} {Es : List M.Ent} {E : M.Ent} {t G : Nat} {L : List (Nat × Nat)} (h : TSt p T i Es) (hi : i < T.length) (ht : t = T[i]) (hE : PrEnt E t G L)
    (hN : N.Sublist (L.map (·.1))) (hnd : (T ++ N).Nodup) (hall : ∀ q ∈ L.map (·.1), q ∈ T ++ N) : TSt p (T ++ N) (i + 1) (Es ++ [E]) := by
  have htm : t ∈ T := by rw [ht]; exact List.getElem_mem hi
  obtain ⟨hpr, hle⟩ := h.pr t htm
  have hQ : ∀ q ∈ L.map (·.1), M.Pr q ∧ q ≤ p := by
    intro q hq
    obtain ⟨x, hx, rfl⟩ := List.mem_map.1 hq
    have hg := hE.fac.1.gt x hx
    have h1 := M.dvd_prodP hx hg.2.2
    rw [hE.fac.2] at h1
    have h2 := Nat.le_of_dvd (by have := hpr.1; omega) h1
    exact ⟨hg.2.1, by omega⟩
  refine ⟨hnd, ?_, List.mem_append_left _ h.head, by simp [h.len], by simp; omega, ?_, ?_, ?_⟩
  · intro x hx
    rcases List.mem_append.1 hx with hx | hx
    · exact h.pr x hx
    · exact hQ x (hN.subset hx)
  · intro j hj hj2
    by_cases hjl : j < Es.length
    · have hjT : j < T.length := by have := h.len; omega
      rw [List.getElem_append_left hjl, List.getElem_append_left hjT]
      exact h.ents j hjl hjT
    · have hje : j = i := by have := h.len; simp at hj; omega
      subst hje
      have e2 : (Es ++ [E])[j] = E := by
        rw [List.getElem_append_right (by have := h.len; omega)]; simp [h.len]
      rw [e2, List.getElem_append_left hi, ← ht]
      exact ⟨⟨t, G, L, hE⟩, hE.eP⟩
  · intro E' hE' q hq
    rcases List.mem_append.1 hE' with hm | hm
    · obtain ⟨t', h1, h2⟩ := h.closed E' hm q hq
      exact ⟨t', List.mem_append_left _ h1, h2⟩
    · simp at hm
      subst hm
      rw [hE.eF] at hq
      obtain ⟨x, hx, rfl⟩ := List.mem_map.1 hq
      exact ⟨x.1, hall _ (List.mem_map.2 ⟨x, hx, rfl⟩), rfl⟩
  · have h1 := h.pot
    rw [List.drop_eq_getElem_cons hi, ← ht] at h1
    have h2 : (T ++ N).drop (i + 1) = T.drop (i + 1) ++ N := by rw [List.drop_append_of_le_length (by omega)]
    rw [h2, wts_append]
    have h3 := wts_sub hN (fun x hx => (hQ x hx).1.1)
    have h4 := wts_all hpr hE.fac
    have h5 : wts (t :: T.drop (i + 1)) = wt t * wts (T.drop (i + 1)) := rfl
    rw [h5] at h1
    have h6 : 2 ^ i * (2 * wts N * wts (T.drop (i + 1))) ≤ 2 ^ i * (wt t * wts (T.drop (i + 1))) := Nat.mul_le_mul_left _ (Nat.mul_le_mul_right _ (by omega))
    refine Nat.le_trans (Nat.le_of_eq ?_) (Nat.le_trans h6 h1)
    rw [Nat.pow_succ]
    generalize 2 ^ i = a
    generalize wts N = b
    generalize wts (T.drop (i + 1)) = c
    ac_rfl

structure Whole (p : Nat) (Es : List M.Ent) : Prop where
  ents : ∀ E ∈ Es, IsEnt E
  nd : (Es.map (·.P)).Nodup
  closed : ∀ E ∈ Es, ∀ q ∈ E.F, ∃ E' ∈ Es, E'.P = q
  le : ∀ E ∈ Es, E.P ≤ (p : Int)
  last : ∃ E ∈ Es, E.P = (p : Int)

theorem TSt.done {p : Nat} {T : List Nat} {Es : List M.Ent} (h : TSt p T T.length Es) : Whole p Es := by
  have hmap : Es.map (·.P) = T.map fun (t : Nat) => (t : Int) := by
    apply List.ext_getElem
    · simp [h.len]
    · intro j h1 h2
      simp at h1 h2
      simp [(h.ents j h1 h2).2]
  have hback : ∀ t ∈ T, ∃ E ∈ Es, E.P = (t : Int) := by
    intro t ht
    have : (t : Int) ∈ Es.map (·.P) := by rw [hmap]; exact List.mem_map.2 ⟨t, ht, rfl⟩
    obtain ⟨E, h1, h2⟩ := List.mem_map.1 this
    exact ⟨E, h1, h2⟩
  have hfor : ∀ E ∈ Es, ∃ t ∈ T, E.P = (t : Int) := by
    intro E hE
    have : E.P ∈ T.map fun (t : Nat) => (t : Int) := by rw [← hmap]; exact List.mem_map.2 ⟨E, hE, rfl⟩
    obtain ⟨t, h1, h2⟩ := List.mem_map.1 this
    exact ⟨t, h1, h2.symm⟩
  refine ⟨?_, ?_, ?_, ?_, hback p h.head⟩
  · intro E hE
    obtain ⟨j, hj, rfl⟩ := List.mem_iff_getElem.1 hE
    exact (h.ents j hj (by have := h.len; omega)).1
  · rw [hmap]
    exact List.Pairwise.map _ (fun a b hab e => hab (by exact_mod_cast e)) h.nd
  · intro E hE q hq
    obtain ⟨t, h1, h2⟩ := h.closed E hE q hq
    obtain ⟨E', h3, h4⟩ := hback t h1
    exact ⟨E', h3, h4.trans h2⟩
  · intro E hE
    obtain ⟨t, h1, h2⟩ := hfor E hE
    have := (h.pr t h1).2
    omega

/-- The entries in their order are right. -/
theorem Whole.proof {p : Nat} {Es Es' : List M.Ent} (h : Whole p Es) (hp : Es'.Perm Es) (hs : Es'.Pairwise fun a b => a.P ≤ b.P) : M.proofP (p : Int) 1 [] Es' = true := by
  have hmem : ∀ E, E ∈ Es' ↔ E ∈ Es := fun E => hp.mem_iff
  have hnd : (Es'.map (·.P)).Nodup := (hp.map (·.P)).nodup_iff.2 h.nd
  have hne : Es'.Pairwise fun a b => a.P ≠ b.P := List.pairwise_map.1 hnd
  have hlt : Es'.Pairwise fun a b => a.P < b.P := (hs.and hne).imp fun {a b} ⟨h1, h2⟩ => by omega
  obtain ⟨E0, h1, h2⟩ := h.last
  refine proof_of Es' 1 [] (fun E hE => h.ents E ((hmem E).1 hE)) (fun E hE => by have := (ent_lt (h.ents E ((hmem E).1 hE))).1; omega) hlt ?_ (fun E hE => h.le E ((hmem E).1 hE)) ?_ (fun _ => ⟨E0, (hmem E0).2 h1, h2⟩)
  · intro E hE q hq
    obtain ⟨E', h3, h4⟩ := h.closed E ((hmem E).1 hE) q hq
    exact .inr ⟨E', (hmem E').2 h3, h4⟩
  · intro hB
    subst hB
    have := (hmem E0).2 h1
    cases this

end Go.Proofs.YtgcjdojhfimceaaGreat
