/- The walks over the reference's Moebius and Count. -/
import Derived.Test.YtgnpohapmijfiaaG10
namespace Go.Proofs.Ytgnpohapmijfiaa
open Go.RowKit

theorem Q.mobL_get {L : List (Nat × Nat)} {k : Nat} (h : k < L.length) : Q.mobL (L.drop k) = if 1 < L[k].2 then 0 else - Q.mobL (L.drop (k + 1)) := by
  rw [List.drop_eq_getElem_cons h, Q.mobL]

theorem flat_exp {L : List (Nat × Nat)} {k : Nat} (h : k < L.length) : (flat L)[k * 2 + 1]? = some (.int .i64 (L[k].2 : Int)) := by
  induction L generalizing k with
  | nil => simp at h
  | cons x L ih =>
    have e : flat (x :: L) = .int .i64 (x.1 : Int) :: .int .i64 (x.2 : Int) :: flat L := rfl
    cases k with
    | zero => rw [e]; rfl
    | succ k =>
      rw [e, show (k + 1) * 2 + 1 = (k * 2 + 1) + 1 + 1 by omega, List.getElem?_cons_succ, List.getElem?_cons_succ, ih (by simpa using h)]
      rfl

set_option maxRecDepth 100000 in
set_option maxHeartbeats 2000000 in
theorem Moebius_is (n : Nat) (w : World) (h1 : 1 ≤ n) (h2 : n ≤ 32) :
    Calls Try.prog 70 #[.int .i64 n] w fun x w' => x = .returned (.int .i64 (Q.mobL (Q.facOf n))) ∧ Below w.heap.size w w' := by
  have hL : Hid (M.IsFac (n : Int).toNat (Q.facOf n)) := by rw [Int.toNat_natCast]; exact Q.facOf_is h1 h2
  have hlen : (Q.facOf n).length ≤ 30 := hL.out.1.length_le (by rw [hL.out.2]; omega)
  have hexp : Hid (∀ k (h : k < (Q.facOf n).length), (Q.facOf n)[k].2 ≤ 100) := fun k h => by
    have H : ∀ n, n < 33 → (Q.facOf n).all (fun x => decide (x.2 ≤ 100)) = true := by decide +kernel
    have := List.all_eq_true.1 (H n (by omega)) _ (List.getElem_mem h)
    simpa using this
  obtain ⟨L, hLL⟩ : ∃ L, L = Q.facOf n := ⟨_, rfl⟩
  rw [← hLL] at hL hlen hexp ⊢
  clear hLL
  go_enter Try.func70, Try.ntmps70
  go_wp2_with (fail)
  refine (refFactor_any (n : Int) L _ (by omega) (by omega) hL).mono ?_
  rintro e w1 ⟨⟨v, rfl, hown⟩, hB⟩
  have HB := Lib.hid hB
  have hrd := Rd.of_own hown
  obtain ⟨hfl, a, cap, hv, hcap, hcell⟩ := hrd
  subst hv
  obtain ⟨m, hm⟩ : ∃ m, m = L.length := ⟨_, rfl⟩
  have HC : Hid (∀ k (h : k < L.length), ∃ b, a = some ⟨b, 0, none⟩ ∧ w1.cell? ⟨b, k * 2 + 1, none⟩ = some (.int .i64 (L[k].2 : Int))) := fun k h => by
    rcases hcell with h0 | ⟨b, rfl, hb, hc⟩
    · omega
    · exact ⟨b, rfl, hc _ _ (flat_exp h)⟩
  have HM := Lib.hid hm
  rw [← hm] at hlen hcap ⊢
  clear hown hB hcell hfl hm
  have H0 : Hid (Q.mobL L = 1 * Q.mobL (L.drop 0)) := by show _ = _; rw [List.drop_zero, Int.one_mul]
  go_wp2_with (fail)
  go_loopw [3, 5] (fun sv iv wx => ∃ (k : Nat) (s : Int), sv = .int .i64 s ∧ iv = .int .i64 k ∧ k ≤ m ∧ -1 ≤ s ∧ s ≤ 1 ∧ Hid (Q.mobL L = s * Q.mobL (L.drop k)) ∧ wx = w1) (fun _ iv _ => m - (intOf iv).toNat)
  case atStart => exact ⟨0, 1, rfl, rfl, by omega, by omega, by omega, H0, by first | rfl | trivial⟩
  case round =>
    obtain ⟨k, s, rfl, rfl, hk, hs0, hs1, HS, rfl⟩ := hrel
    by_cases hlt : k < m
    · obtain ⟨b, rfl, hc⟩ := HC.out k (by rw [← HM.out]; exact hlt)
      have hmg := Q.mobL_get (L := L) (k := k) (by rw [← HM.out]; exact hlt)
      have hee := hexp.out k (by rw [← HM.out]; exact hlt)
      obtain ⟨e, he⟩ : ∃ e, e = (L[k]'(by rw [← HM.out]; exact hlt)).2 := ⟨_, rfl⟩
      rw [← he] at hc hmg hee
      have hklt : (k : Int) < (m : Int) := by omega
      clear he
      by_cases h1e : 1 < e
      · rw [if_pos h1e] at hmg
        have HR : Hid (Q.mobL L = 0) := by show _ = _; rw [HS.out, hmg, Int.mul_zero]
        have hd : decide ((1 : Int) < (e : Int)) = true := by rw [decide_eq_true_iff]; omega
        clear hmg
        go_wp2_with (fail)
        go_ret
        exact ⟨by rw [HR.out]; rfl, HB.out⟩
      · rw [if_neg h1e] at hmg
        have HR : Hid (Q.mobL L = (-s) * Q.mobL (L.drop (k + 1))) := by show _ = _; rw [HS.out, hmg, Int.mul_neg, Int.neg_mul]
        have hd : decide ((1 : Int) < (e : Int)) = false := by rw [decide_eq_false_iff_not]; omega
        clear hmg
        go_wp2_with (fail)
        go_roundw
        case rel => exact ⟨k + 1, -s, by first | rfl | go_num, by go_num, by omega, by omega, by omega, HR, by first | rfl | trivial⟩
        case measure => simp [intOf]; omega
    · obtain rfl : k = m := by omega
      have HR : Hid (s = Q.mobL L) := by
        show _ = _
        rw [HS.out, HM.out, List.drop_length]; simp [Q.mobL]
      go_wp2_with (fail)
      go_ret
      exact ⟨by rw [HR.out]; rfl, HB.out⟩

set_option maxRecDepth 100000 in
set_option maxHeartbeats 2000000 in
theorem rCount_far (p n : Nat) (w : World) (hp : 2 ≤ p) (hp2 : p ≤ 1021) (hn1 : 1 ≤ n) (hn2 : n ≤ 32) (hpw : Hid (2305843009213693952 < p ^ n)) :
    Calls Try.prog 37 #[.int .i64 p, .int .i64 n] w fun x w' => x = .returned (.tuple #[.int .i64 0, .bool false]) ∧ Below w.heap.size w w' := by
  have hzp : ((p : Int) == 0) = false := by rw [beq_eq_false_iff_ne]; omega
  have hzn : ((n : Int) == 0) = false := by rw [beq_eq_false_iff_ne]; omega
  have hnn : ((n : Int) % (n : Int) != 0) = false := by rw [Int.emod_self]; rfl
  have hnn2 : (n : Int) % (n : Int) = 0 := Int.emod_self
  have hge : decide ((1 : Int) ≤ (n : Int)) = true := by rw [decide_eq_true_iff]; omega
  go_enter Try.func37, Try.ntmps37
  go_wp2_with (fail)
  go_loopw [6, 7] (fun sv dv wx => sv = .int .i64 0 ∧ dv = .int .i64 n ∧ wx = w) (fun _ _ _ => 0)
  case atStart => exact ⟨rfl, rfl, by first | rfl | trivial⟩
  case round =>
    obtain ⟨rfl, rfl, rfl⟩ := hrel
    go_wp2_with (fail)
    go_loopw [8, 9] (fun xv iv wx => ∃ (i y : Nat), xv = .int .i64 y ∧ iv = .int .i64 i ∧ i ≤ n ∧ 1 ≤ y ∧ y ≤ 2305843009213693952 ∧ Hid (y = p ^ i) ∧ wx = wr) (fun _ iv _ => n - (intOf iv).toNat)
    case atStart => exact ⟨0, 1, rfl, rfl, by omega, by omega, by omega, (Nat.pow_zero p).symm, by first | rfl | trivial⟩
    case round =>
      obtain ⟨i, y, rfl, rfl, hi, hy0, hy, HY, rfl⟩ := hrel
      by_cases hlt : i < n
      · have HY2 : Hid (y * p = p ^ (i + 1)) := by show _ = _; rw [Nat.pow_succ, ← HY.out]
        have hq : ((2305843009213693952 : Int) / (p : Int)) = ((2305843009213693952 / p : Nat) : Int) := rfl
        obtain ⟨q, hqq⟩ : ∃ q : Nat, q = 2305843009213693952 / p := ⟨_, rfl⟩
        have hqle : q ≤ 2305843009213693952 := by rw [hqq]; exact Nat.div_le_self _ _
        have hqi : q < y ↔ 2305843009213693952 < y * p := by rw [hqq]; exact Nat.div_lt_iff_lt_mul (by omega)
        rw [← hqq] at hq
        have hilt : (i : Int) < (n : Int) := by omega
        by_cases hbig : q < y
        · have hde2 : decide ((q : Int) < (y : Int)) = true := by rw [decide_eq_true_iff]; omega
          have hde4 : (q : Int) < (y : Int) := by omega
          clear hqi hqq
          go_wp2_with (fail)
          go_ret2
          exact ⟨rfl, Below.refl _ _⟩
        · have hde2 : decide ((q : Int) < (y : Int)) = false := by rw [decide_eq_false_iff_not]; omega
          have hde4 : ¬ ((q : Int) < (y : Int)) := by omega
          have hb : y * p ≤ 2305843009213693952 := by omega
          have hb1 : (0 : Int) ≤ (y : Int) * (p : Int) ∧ (y : Int) * (p : Int) ≤ 2305843009213693952 := by
            have : (y : Int) * (p : Int) = ((y * p : Nat) : Int) := by simp
            omega
          have hb2 : 1 ≤ y * p := by rw [HY2.out]; exact Q.pow_pos' hp _
          have HZ : Hid ((y : Int) * (p : Int) = ((y * p : Nat) : Int)) := by show _ = _; simp
          clear hqi hqq hqle
          go_wp2_with (fail)
          go_roundw
          case rel => exact ⟨i + 1, y * p, by first | (rw [← HZ.out]) | (rw [← HZ.out]; go_num), by go_num, by omega, hb2, hb, HY2, by first | rfl | trivial⟩
          case measure => simp [intOf]; omega
      · obtain rfl : i = n := by omega
        exact absurd hpw.out (by have := HY.out; omega)

set_option maxRecDepth 100000 in
set_option maxHeartbeats 2000000 in
theorem rCount_is (p n : Nat) (w : World) (hp : 2 ≤ p) (hp2 : p ≤ 1021) (hn1 : 1 ≤ n) (hn2 : n ≤ 32) (hpw : Hid (p ^ n ≤ 2305843009213693952)) (h0 : Hid (0 ≤ Q.sumAt p n n)) (t : Bool) (ht : Hid (decide ((9007199254740992 : Int) < Q.sumAt p n n / (n : Int)) = t)) :
    Calls Try.prog 37 #[.int .i64 p, .int .i64 n] w fun x w' => x = .returned (.tuple #[.int .i64 (if t then 0 else Q.sumAt p n n / (n : Int)), .bool !t]) ∧ Below w.heap.size w w' := by
  have hzp : ((p : Int) == 0) = false := by rw [beq_eq_false_iff_ne]; omega
  have hzn : ((n : Int) == 0) = false := by rw [beq_eq_false_iff_ne]; omega
  go_enter Try.func37, Try.ntmps37
  go_wp2_with (fail)
  go_loopw [6, 7] (fun sv dv wx => ∃ (d : Nat) (S : Int), sv = .int .i64 S ∧ dv = .int .i64 d ∧ d ≤ n ∧ -4611686018427387904 ≤ S ∧ S ≤ 4611686018427387904 ∧ Hid (S = Q.sumAt p n (n - d)) ∧ Hid (Below w.heap.size w wx)) (fun _ dv _ => (intOf dv).toNat)
  case atStart => exact ⟨n, 0, rfl, rfl, by omega, by omega, by omega, by show _ = _; rw [Nat.sub_self]; rfl, Below.refl _ _⟩
  case round =>
    obtain ⟨d, S, rfl, rfl, hd, hS0, hS1, HS, HB⟩ := hrel
    by_cases hd1 : 1 ≤ d
    · have hge : decide ((1 : Int) ≤ (d : Int)) = true := by rw [decide_eq_true_iff]; omega
      have hzd : ((d : Int) == 0) = false := by rw [beq_eq_false_iff_ne]; omega
      have HSS : Hid (Q.sumAt p n (n - (d - 1)) = if n % d = 0 then Q.sumAt p n (n - d) + Q.mobL (Q.facOf (n / d)) * ((p ^ d : Nat) : Int) else Q.sumAt p n (n - d)) := by
        show _ = _
        rw [show n - (d - 1) = n - d + 1 by omega, Q.sumAt, show n - (n - d) = d by omega]
      have HSB := Lib.hid (Q.sumAt_abs hp hpw.out (n - (d - 1)) (by omega))
      have hnum : (d : Int) - 1 = ((d - 1 : Nat) : Int) := by omega
      by_cases hm : n % d = 0
      · have hmm : (n : Int) % (d : Int) = 0 := by exact_mod_cast congrArg (fun z : Nat => (z : Int)) hm
        have hme : ((n : Int) % (d : Int) != 0) = false := by rw [hmm]; rfl
        obtain ⟨g, hg⟩ : ∃ g, g = n / d := ⟨_, rfl⟩
        have hgi : (n : Int) / (d : Int) = (g : Int) := by rw [hg]; rfl
        have hg1 : 1 ≤ g := by rw [hg]; exact Nat.div_pos hd (by omega)
        have hg2 : g ≤ 32 := by rw [hg]; exact Nat.le_trans (Nat.div_le_self _ _) hn2
        obtain ⟨mu, hmu⟩ : ∃ mu, mu = Q.mobL (Q.facOf g) := ⟨_, rfl⟩
        have HMU := Lib.hid hmu
        have hmb : -1 ≤ mu ∧ mu ≤ 1 := by rw [hmu]; exact Q.mobL_bd _
        have HS2 : Hid (S + mu * ((p ^ d : Nat) : Int) = Q.sumAt p n (n - (d - 1))) := by
          show _ = _; rw [HSS.out, if_pos hm, ← HS.out, hmu, hg]
        have hpd : Hid (p ^ d ≤ 2305843009213693952) := Nat.le_trans (Q.pow_le' hp hd) hpw.out
        clear hm hg hmu
        go_wp2_with (fail)
        go_loopw [8, 9] (fun xv iv wx => ∃ (i y : Nat), xv = .int .i64 y ∧ iv = .int .i64 i ∧ i ≤ d ∧ 1 ≤ y ∧ y ≤ 2305843009213693952 ∧ Hid (y = p ^ i) ∧ wx = wr) (fun _ iv _ => d - (intOf iv).toNat)
        case atStart => exact ⟨0, 1, rfl, rfl, by omega, by omega, by omega, (Nat.pow_zero p).symm, by first | rfl | trivial⟩
        case round =>
          obtain ⟨i, y, rfl, rfl, hi, hy0, hy, HY, rfl⟩ := hrel
          by_cases hlt : i < d
          · have HY2 : Hid (y * p = p ^ (i + 1)) := by show _ = _; rw [Nat.pow_succ, ← HY.out]
            have hq : ((2305843009213693952 : Int) / (p : Int)) = ((2305843009213693952 / p : Nat) : Int) := rfl
            obtain ⟨q, hqq⟩ : ∃ q : Nat, q = 2305843009213693952 / p := ⟨_, rfl⟩
            have hqle : q ≤ 2305843009213693952 := by rw [hqq]; exact Nat.div_le_self _ _
            have hqi : q < y ↔ 2305843009213693952 < y * p := by rw [hqq]; exact Nat.div_lt_iff_lt_mul (by omega)
            rw [← hqq] at hq
            have hilt : (i : Int) < (d : Int) := by omega
            have hb : y * p ≤ 2305843009213693952 := by rw [HY2.out]; exact Nat.le_trans (Q.pow_le' hp (by omega)) hpd.out
            have hb1 : (0 : Int) ≤ (y : Int) * (p : Int) ∧ (y : Int) * (p : Int) ≤ 2305843009213693952 := by
              have : (y : Int) * (p : Int) = ((y * p : Nat) : Int) := by simp
              omega
            have hb2 : 1 ≤ y * p := by rw [HY2.out]; exact Q.pow_pos' hp _
            have HZ : Hid ((y : Int) * (p : Int) = ((y * p : Nat) : Int)) := by show _ = _; simp
            have hde2 : decide ((q : Int) < (y : Int)) = false := by rw [decide_eq_false_iff_not]; have := hqi; omega
            have hde4 : ¬ ((q : Int) < (y : Int)) := by have := hqi; omega
            clear hqi hqq hqle
            go_wp2_with (fail)
            go_roundw
            case rel => exact ⟨i + 1, y * p, by first | (rw [← HZ.out]) | (rw [← HZ.out]; go_num), by go_num, by omega, hb2, hb, HY2, by first | rfl | trivial⟩
            case measure => simp [intOf]; omega
          · obtain rfl : i = d := by omega
            have hmy : -2305843009213693952 ≤ mu * (y : Int) ∧ mu * (y : Int) ≤ 2305843009213693952 := by
              rcases (by omega : mu = -1 ∨ mu = 0 ∨ mu = 1) with h1 | h1 | h1 <;> rw [h1] <;> constructor <;> simp <;> omega
            have HS3 : Hid (S + mu * (y : Int) = Q.sumAt p n (n - (i - 1))) := by show _ = _; rw [← HS2.out, HY.out]
            have hsb : -4611686018427387904 ≤ S + mu * (y : Int) ∧ S + mu * (y : Int) ≤ 4611686018427387904 := by rw [HS3.out]; exact HSB.out
            go_wp2_with (fail)
            refine (Moebius_is g _ hg1 hg2).mono ?_
            rintro e w5 ⟨rfl, hB5⟩
            have HB5 := Lib.hid (HB.out.trans (hB5.mono HB.out.size))
            rw [← HMU.out]
            clear hB5
            go_wp2_with (fail)
            go_roundw
            case rel => exact ⟨i - 1, S + mu * (y : Int), by first | rfl | go_num, by first | (rw [← hnum]) | (rw [← hnum]; go_num), by omega, hsb.1, hsb.2, HS3, HB5⟩
            case measure => simp [intOf]; omega
      · have hme : ((n : Int) % (d : Int) != 0) = true := by
          rw [bne_iff_ne]; intro h; exact hm (by exact_mod_cast h)
        have HS2 : Hid (S = Q.sumAt p n (n - (d - 1))) := by show _ = _; rw [HSS.out, if_neg hm, ← HS.out]
        clear hm
        go_wp2_with (fail)
        go_roundw
        case rel => exact ⟨d - 1, S, rfl, by first | (rw [← hnum]) | (rw [← hnum]; go_num), by omega, hS0, hS1, HS2, HB⟩
        case measure => simp [intOf]; omega
    · obtain rfl : d = 0 := by omega
      have hge : decide ((1 : Int) ≤ ((0 : Nat) : Int)) = false := rfl
      have HSE : Hid (S = Q.sumAt p n n) := by have := HS.out; rwa [Nat.sub_zero] at this
      have hS00 : 0 ≤ S := by rw [HSE.out]; exact h0.out
      have hte : decide ((9007199254740992 : Int) < S / (n : Int)) = t := by rw [HSE.out]; exact ht.out
      have hq : 0 ≤ S / (n : Int) ∧ S / (n : Int) ≤ 4611686018427387904 := by
        refine ⟨Int.ediv_nonneg hS00 (by omega), ?_⟩
        have := Int.ediv_le_self (n : Int) hS00
        omega
      cases t with
      | true =>
        go_wp2_with (fail)
        go_ret2
        exact ⟨by first | rfl | (rw [← HSE.out]; rfl), HB.out⟩
      | false =>
        go_wp2_with (fail)
        go_ret2
        exact ⟨by first | rfl | (rw [← HSE.out]; rfl), HB.out⟩

end Go.Proofs.Ytgnpohapmijfiaa
