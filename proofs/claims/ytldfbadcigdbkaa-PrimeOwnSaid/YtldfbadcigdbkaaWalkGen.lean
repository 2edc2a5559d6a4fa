/- The walks over Log, generates, leastGenerator, Generator. -/
import Derived.Test.YtldfbadcigdbkaaWalkLog
import Derived.Deep.LoopGhost
namespace Go.Proofs.Ytldfbadcigdbkaa
open Go.RowKit

theorem phi_prime (p : Nat) : M.phiP [(p, 1)] = p - 1 := by simp [M.phiP]
theorem fac_prime {p : Nat} (hp : M.Pr p) : M.IsFac p [(p, 1)] := ⟨⟨by have := hp.1; show 1 < p; omega, hp, Nat.le_refl _, trivial⟩, by simp [M.prodP]⟩

/-- orderOf, for a prime. -/
theorem orderOf_prime (g p o : Nat) (w : World) (hp : Hid (M.Pr p)) (hp2 : p ≤ 2147483647) (hg : g < p) (ho : Hid (M.IsOrd g o p)) :
    Calls Try.prog 40 #[.int .i64 g, .int .i64 p] w fun x w' => x = .returned (.int .i64 (o : Int)) ∧ Below w.heap.size w w' := by
  have h2 := hp.out.1
  obtain ⟨L2, hL2⟩ := M.exists_fac (p - 1) (by omega)
  exact orderOf_any g p o [(p, 1)] L2 w (by omega) (by omega) (by omega) (by rw [Int.toNat_natCast]; exact fac_prime hp.out) (by rw [phi_prime]; exact hL2) (by rw [Int.toNat_natCast, Int.toNat_natCast]; exact ho.out)

def IsLogArg (g a p : Int) : Prop := 1 ≤ g ∧ g < p ∧ 1 ≤ a ∧ a < p ∧ PrI p

set_option maxRecDepth 100000 in
set_option maxHeartbeats 1000000 in
theorem Log_arg (g a p : Int) (w : World) (h : Hid (¬ IsLogArg g a p)) :
    Calls Try.prog 22 #[.int .i64 g, .int .i64 a, .int .i64 p] w fun x w' => x = .returned (.tuple #[.int .i64 0, .int .i64 2]) ∧ Below w.heap.size w w' := by
  by_cases hg : 0 ≤ g ∧ g < p ∧ p ≤ 2147483647
  · obtain ⟨g0, g1, hm⟩ := hg
    by_cases ha : 0 ≤ a ∧ a < p ∧ p ≤ 2147483647
    · obtain ⟨a0, a1, _⟩ := ha
      by_cases gz : g = 0
      · subst gz
        go_enter Try.func22, Try.ntmps22
        go_wp2_with (go_at_call 36; refine (isRest_yes _ _ _ (by omega) (by omega) (by omega)).mono ?_; rintro e w' ⟨rfl, rfl⟩)
        go_ret2
        exact ⟨rfl, Below.refl _ _⟩
      · have z1 : ((g : Int) == 0) = false := by simpa using gz
        by_cases az : a = 0
        · subst az
          go_enter Try.func22, Try.ntmps22
          go_wp2_with (go_at_call 36; refine (isRest_yes _ _ _ (by omega) (by omega) (by omega)).mono ?_; rintro e w' ⟨rfl, rfl⟩)
          go_ret2
          exact ⟨rfl, Below.refl _ _⟩
        · have z2 : ((a : Int) == 0) = false := by simpa using az
          have hp : Hid (¬ PrI p) := fun hp => h.out ⟨by omega, g1, by omega, a1, hp⟩
          go_enter Try.func22, Try.ntmps22
          go_wp2_with (first
            | (go_at_call 36; refine (isRest_yes _ _ _ (by omega) (by omega) (by omega)).mono ?_; rintro e w' ⟨rfl, rfl⟩)
            | (go_at_call 37; refine (isPrime_no _ _ hp).mono ?_; rintro e w1 ⟨rfl, hB⟩; have HB := Lib.hid hB; clear hB))
          go_ret2
          exact ⟨rfl, HB.out⟩
    · go_enter Try.func22, Try.ntmps22
      go_wp2_with (fail)
      refine (isRest_yes _ _ _ g0 g1 hm).mono ?_
      rintro e w' ⟨rfl, rfl⟩
      go_wp2_with (fail)
      refine (isRest_no _ _ _ ha).mono ?_
      rintro e w' ⟨rfl, rfl⟩
      go_wp2_with (fail)
      go_ret2
      exact ⟨rfl, Below.refl _ _⟩
  · go_enter Try.func22, Try.ntmps22
    go_wp2_with (fail)
    refine (isRest_no _ _ _ hg).mono ?_
    rintro e w' ⟨rfl, rfl⟩
    go_wp2_with (fail)
    go_ret2
    exact ⟨rfl, Below.refl _ _⟩

set_option maxRecDepth 100000 in
set_option maxHeartbeats 1000000 in
theorem Log_none (g a p o : Nat) (w : World) (hg1 : 1 ≤ g) (hg : g < p) (ha1 : 1 ≤ a) (ha : a < p) (hp : Hid (PrI p)) (ho : Hid (M.IsOrd g o p)) (hoo : o ≤ 2147483647) (hn : Hid (a ^ o % p ≠ 1)) :
    Calls Try.prog 22 #[.int .i64 g, .int .i64 a, .int .i64 p] w fun x w' => x = .returned (.tuple #[.int .i64 0, .int .i64 6]) ∧ Below w.heap.size w w' := by
  have hm := hp.out.2.1
  have hpr : Hid (M.Pr p) := by have := hp.out.2.2; rw [Int.toNat_natCast] at this; exact this
  have z1 : ((g : Int) == 0) = false := by simp; omega
  have z2 : ((a : Int) == 0) = false := by simp; omega
  obtain ⟨S, hS⟩ : ∃ S, a ^ o % p = S := ⟨_, rfl⟩
  have hS1 : ((S : Int) != 1) = true := by simp; intro e; exact hn.out (by omega)
  have HS := Lib.hid hS
  clear hS
  go_enter Try.func22, Try.ntmps22
  go_wp2_with (first
    | (go_at_call 36; refine (isRest_yes _ _ _ (by omega) (by omega) (by omega)).mono ?_; rintro e w' ⟨rfl, rfl⟩)
    | (go_at_call 37; refine (isPrime_yes _ _ hp).mono ?_; rintro e w1 ⟨rfl, hB⟩; have HB := Lib.hid hB; clear hB)
    | (go_at_call 40; refine (orderOf_prime g p o _ hpr (by omega) (by omega) ho).mono ?_; rintro e w2 ⟨rfl, hB⟩; have HB2 := Lib.hid hB; clear hB)
    | (go_at_call 41; refine (raise_is a o p S _ (by omega) (by omega) (by omega) HS).mono ?_; rintro e w' ⟨rfl, rfl⟩))
  go_ret2
  exact ⟨rfl, HB.out.trans (HB2.out.mono HB.out.size)⟩

set_option maxRecDepth 100000 in
set_option maxHeartbeats 1000000 in
theorem Log_ok (g a p o k : Nat) (w : World) (hg1 : 1 ≤ g) (hg : g < p) (ha1 : 1 ≤ a) (ha : a < p) (hp : Hid (PrI p)) (ho : Hid (M.IsOrd g o p)) (hoo : o ≤ 2147483647) (hk : k < o) (hak : Hid (a = g ^ k % p)) :
    Calls Try.prog 22 #[.int .i64 g, .int .i64 a, .int .i64 p] w fun x w' => x = .returned (.tuple #[.int .i64 k, .int .i64 0]) ∧ Below w.heap.size w w' := by
  have hm := hp.out.2.1
  have hpr : Hid (M.Pr p) := by have := hp.out.2.2; rw [Int.toNat_natCast] at this; exact this
  have h2 := hpr.out.1
  have z1 : ((g : Int) == 0) = false := by simp; omega
  have z2 : ((a : Int) == 0) = false := by simp; omega
  have HS : Hid (a ^ o % p = 1) := by
    show _ = _
    have h1p := M.mod_of_one_lt h2
    rw [hak.out, M.pow_zmod, Nat.mul_comm, M.pow_one_mul ho.out.one, h1p]
  go_enter Try.func22, Try.ntmps22
  go_wp2_with (first
    | (go_at_call 36; refine (isRest_yes _ _ _ (by omega) (by omega) (by omega)).mono ?_; rintro e w' ⟨rfl, rfl⟩)
    | (go_at_call 37; refine (isPrime_yes _ _ hp).mono ?_; rintro e w1 ⟨rfl, hB⟩; have HB := Lib.hid hB; clear hB)
    | (go_at_call 40; refine (orderOf_prime g p o _ hpr (by omega) (by omega) ho).mono ?_; rintro e w2 ⟨rfl, hB⟩; have HB2 := Lib.hid hB; clear hB)
    | (go_at_call 41; refine (raise_is a o p 1 _ (by omega) (by omega) (by omega) HS).mono ?_; rintro e w' ⟨rfl, rfl⟩)
    | (go_at_call 42; refine (logOf_is g a p o k _ (by omega) (by omega) (by omega) (by omega) (by omega) (by omega) hk ho hak).mono ?_; rintro e w3 ⟨rfl, hB⟩; have HB3 := Lib.hid hB; clear hB))
  go_ret2
  have h12 := HB.out.trans (HB2.out.mono HB.out.size)
  exact ⟨rfl, h12.trans (HB3.out.mono h12.size)⟩

/-! ### Generators -/
def ints (Q : List Nat) : List Value := Q.map fun (q : Nat) => Value.int .i64 (q : Int)
theorem ints_get (Q : List Nat) (k : Nat) (h : k < Q.length) : (ints Q)[k]? = some (.int .i64 (Q[k] : Int)) := by simp [ints, h]
theorem heads_ints (L : List (Nat × Nat)) : heads L = ints (L.map (·.1)) := by simp [heads, ints]

/-- No power of g with the exponent (p - 1) / q is 1 modulo p. -/
def genB (g p : Nat) (Q : List Nat) : Bool := Q.all fun q => g ^ ((p - 1) / q) % p != 1

set_option maxRecDepth 100000 in
set_option maxHeartbeats 1000000 in
theorem generates_is (g p : Nat) (v : Value) (Q : List Nat) (t : Bool) (w : World) (hr : Hid (Rd w v 1 Q.length (ints Q))) (hp : 1 ≤ p) (hg : g < p) (hp2 : p ≤ 2147483647) (hlen : Q.length ≤ 1000000) (hQ : Hid (∀ q ∈ Q, 1 ≤ q ∧ q ≤ 2147483647)) (ht : Hid (genB g p Q = t)) :
    Calls Try.prog 56 #[.int .i64 g, .int .i64 p, v] w fun x w' => x = .returned (.bool t) ∧ w = w' := by
  obtain ⟨hfl, a, cap, rfl, hcap, hcell⟩ := hr.out
  have HC := Lib.hid hcell
  clear hcell hfl hr
  go_enter Try.func56, Try.ntmps56
  go_wp2_with (fail)
  go_loop [11] (fun i => ∃ (k : Nat), i = .int .i64 k ∧ k ≤ Q.length ∧ Hid (∀ j (h : j < Q.length), j < k → g ^ ((p - 1) / Q[j]) % p ≠ 1)) (fun i => Q.length - (intOf i).toNat)
  case atStart => exact ⟨0, rfl, by omega, fun j _ hj => by omega⟩
  case round =>
    obtain ⟨k, rfl, hk, HK⟩ := hrel
    by_cases hlt : k < Q.length
    · rcases HC.out with h0 | ⟨b, rfl, hb, hcell⟩
      · omega
      have c0 : w.cell? ⟨b, k, none⟩ = some (.int .i64 (Q[k] : Int)) := hcell _ _ (ints_get Q k hlt)
      clear hcell
      have hq := hQ.out Q[k] (List.getElem_mem hlt)
      obtain ⟨q, hqe⟩ : ∃ q, q = Q[k] := ⟨_, rfl⟩
      rw [← hqe] at c0 hq
      obtain ⟨S, hS⟩ : ∃ S, g ^ ((p - 1) / q) % p = S := ⟨_, rfl⟩
      have HS := Lib.hid hS
      have HQE := Lib.hid hqe
      clear hS hqe
      have hpq : ((p : Int) - 1) / (q : Int) = (((p - 1) / q : Nat) : Int) := by
        rw [show ((p : Int) - 1) = ((p - 1 : Nat) : Int) by omega]; rfl
      have HPQ := Lib.hid hpq
      have hqb : (p - 1) / q ≤ p - 1 := Nat.div_le_self _ _
      clear hpq
      by_cases h1 : S = 1
      · have hf : t = false := by
          rw [← ht.out, genB, List.all_eq_false]
          exact ⟨Q[k], List.getElem_mem hlt, by rw [← HQE.out, HS.out, h1]; simp⟩
        have HF := Lib.hid hf
        have hS1 : ((S : Int) == 1) = true := by simp [h1]
        clear h1 hf
        go_wp2_with (fail)
        rw [HPQ.out]
        refine (raise_is g ((p - 1) / q) p S _ (by omega) (by omega) (by omega) HS).mono ?_
        rintro e w' ⟨rfl, rfl⟩
        go_wp2_with (fail)
        go_ret
        exact ⟨ret_b HF.out.symm, rfl⟩
      · have hS1 : ((S : Int) == 1) = false := by simp; omega
        have HN := Lib.hid h1
        clear h1
        go_wp2_with (fail)
        rw [HPQ.out]
        refine (raise_is g ((p - 1) / q) p S _ (by omega) (by omega) (by omega) HS).mono ?_
        rintro e w' ⟨rfl, rfl⟩
        go_wp2_with (fail)
        go_round
        case rel =>
          refine ⟨k + 1, by go_num, by omega, fun j hj hjk => ?_⟩
          by_cases e1 : j = k
          · subst e1; rw [← HQE.out, HS.out]; exact HN.out
          · exact HK.out j hj (by omega)
        case measure => simp [intOf]; omega
    · obtain rfl : k = Q.length := by omega
      have hf : t = true := by
        rw [← ht.out, genB, List.all_eq_true]
        intro q hq
        obtain ⟨j, hj, rfl⟩ := List.getElem_of_mem hq
        simpa using HK.out j hj hj
      have HF := Lib.hid hf
      clear hf
      go_wp2_with (fail)
      go_ret
      exact ⟨ret_b HF.out.symm, rfl⟩

set_option maxRecDepth 100000 in
set_option maxHeartbeats 1000000 in
theorem leastGenerator_is (p G : Nat) (v : Value) (Q : List Nat) (w : World) (hr : Hid (Rd w v 1 Q.length (ints Q))) (hp2 : p ≤ 2147483647) (hlen : Q.length ≤ 1000000) (hQ : Hid (∀ q ∈ Q, 1 ≤ q ∧ q ≤ 2147483647)) (hG1 : 1 ≤ G) (hG2 : G < p) (hG : Hid (genB G p Q = true ∧ ∀ g, 1 ≤ g → g < G → genB g p Q = false)) :
    Calls Try.prog 47 #[.int .i64 p, v] w fun x w' => x = .returned (.int .i64 G) ∧ w = w' := by
  go_enter Try.func47, Try.ntmps47
  go_wp2_with (fail)
  go_step3
  go_wp2_with (fail)
  try go_step3
  go_wp2_with (fail)
  go_loop [5] (fun x => ∃ g : Nat, x = .int .i64 g ∧ 1 ≤ g ∧ g ≤ G) (fun x => G - (intOf x).toNat)
  case atStart => exact ⟨1, rfl, by omega, by omega⟩
  case round =>
    obtain ⟨g, rfl, hg1, hg2⟩ := hrel
    by_cases hlt : g < G
    · have ht : Hid (genB g p Q = false) := hG.out.2 g hg1 hlt
      go_wp2_with (go_at_call 56; refine (generates_is g p v Q false _ hr (by omega) (by omega) (by omega) hlen hQ ht).mono ?_; rintro e w' ⟨rfl, rfl⟩)
      go_round
      case rel => exact ⟨g + 1, by go_num, by omega, by omega⟩
      case measure => simp [intOf]; omega
    · obtain rfl : g = G := by omega
      have ht : Hid (genB g p Q = true) := hG.out.1
      go_wp2_with (go_at_call 56; refine (generates_is g p v Q true _ hr (by omega) (by omega) (by omega) hlen hQ ht).mono ?_; rintro e w' ⟨rfl, rfl⟩)
      try rw [Exit.noGoto_ret]
      go_ret
      exact ⟨rfl, rfl⟩

theorem least_gen {p : Nat} (hp : M.Pr p) {L : List (Nat × Nat)} (hL : M.IsFac (p - 1) L) : ∃ G, 1 ≤ G ∧ G < p ∧ genB G p (L.map (·.1)) = true ∧ ∀ g, 1 ≤ g → g < G → genB g p (L.map (·.1)) = false := by
  obtain ⟨G, h1, h2, h3⟩ := M.exists_gen hp
  have hG : genB G p (L.map (·.1)) = true := by
    rw [genB, List.all_eq_true]
    intro q hq
    obtain ⟨x, hx, rfl⟩ := List.mem_map.1 hq
    have hg := hL.1.gt x hx
    simpa using h3 x.1 hg.2.1 (by have := M.dvd_prodP hx hg.2.2; rwa [hL.2] at this)
  suffices H : ∀ b G, G ≤ b → 1 ≤ G → G < p → genB G p (L.map (·.1)) = true → ∃ G, 1 ≤ G ∧ G < p ∧ genB G p (L.map (·.1)) = true ∧ ∀ g, 1 ≤ g → g < G → genB g p (L.map (·.1)) = false from H G G (Nat.le_refl _) h1 h2 hG
  intro b
  induction b with
  | zero => intro G h0 h1; omega
  | succ b ih =>
    intro G hb h1 h2 hG
    by_cases h : ∃ g, 1 ≤ g ∧ g < G ∧ genB g p (L.map (·.1)) = true
    · obtain ⟨g, hg1, hg2, hg3⟩ := h
      exact ih g (by omega) hg1 (by omega) hg3
    · exact ⟨G, h1, h2, hG, fun g hg1 hg2 => by
        rw [Bool.eq_false_iff]
        exact fun hg3 => h ⟨g, hg1, hg2, hg3⟩⟩

theorem genB_iff {g p : Nat} {L : List (Nat × Nat)} (hL : M.IsFac (p - 1) L) : genB g p (L.map (·.1)) = true ↔ ∀ q, M.Pr q → q ∣ p - 1 → g ^ ((p - 1) / q) % p ≠ 1 := by
  rw [genB, List.all_eq_true]
  constructor
  · intro h q hq hd
    obtain ⟨x, hx, rfl⟩ := hL.1.mem_of_dvd hq (by rw [hL.2]; exact hd)
    simpa using h x.1 (List.mem_map.2 ⟨x, hx, rfl⟩)
  · intro h q hq
    obtain ⟨x, hx, rfl⟩ := List.mem_map.1 hq
    have hg := hL.1.gt x hx
    simpa using h x.1 hg.2.1 (by have := M.dvd_prodP hx hg.2.2; rwa [hL.2] at this)

theorem fac_small {n : Nat} {L : List (Nat × Nat)} (hL : M.IsFac n L) (hn : n ≤ 2147483647) : ∀ q ∈ L.map (·.1), 1 ≤ q ∧ q ≤ 2147483647 := by
  intro q hq
  obtain ⟨x, hx, rfl⟩ := List.mem_map.1 hq
  have hg := hL.1.gt x hx
  have h1 := M.dvd_prodP hx hg.2.2
  rw [hL.2] at h1
  have hpos := hL.1.pos
  rw [hL.2] at hpos
  have := Nat.le_of_dvd hpos h1
  exact ⟨by omega, by omega⟩

end Go.Proofs.Ytldfbadcigdbkaa