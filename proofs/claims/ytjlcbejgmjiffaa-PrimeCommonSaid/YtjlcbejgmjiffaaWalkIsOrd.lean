/- The walks over the reference's IsOrder and Order. -/
import Derived.Test.YtjlcbejgmjiffaaWalkFactor
namespace Go.Proofs.Ytjlcbejgmjiffaa
open Go.RowKit

theorem quietw {P : Program} {f : FuncId} {args : Array Value} {w : World} {v : Value} (h : Calls P f args w fun e w' => e = .returned v ∧ w = w') : Calls P f args w fun e w' => e = .returned v ∧ w' = w :=
  h.mono fun _ _ ⟨he, hw⟩ => ⟨he, hw.symm⟩

/-- A call that leaves the world alone, inside a region that draws, behind other draws. -/
theorem still_more {P : Program} {f : FuncId} {args : Array Value} {v : Value} {w0 : World} (a n : Nat) (c : ∀ W : World, Calls P f args W fun e w' => e = .returned v ∧ W = w') :
    Calls P f args (w0.drewN (a + n)) fun e w' => e = .returned v ∧ ∃ m, w' = w0.drewN (a + m) :=
  (c _).mono fun _ _ ⟨he, hw⟩ => ⟨he, n, hw.symm⟩

set_option maxRecDepth 100000 in
set_option maxHeartbeats 1000000 in
theorem IsOrder_yes (a e m : Int) (L : List (Nat × Nat)) (w : World) (ha : 0 ≤ a) (ham : a < m) (hm : m ≤ 2147483647) (he1 : 1 ≤ e) (hem : e ≤ m) (hL : Hid (M.IsFac e.toNat L)) (ho : Hid (M.IsOrd a.toNat e.toNat m.toNat)) :
    Calls Try.prog 30 #[.int .i64 a, .int .i64 e, .int .i64 m] w fun x w' => x = .returned (.bool true) ∧ Below w.heap.size w w' := by
  have hlen : L.length ≤ 30 := hL.out.1.length_le (by rw [hL.out.2]; omega)
  have h1 : Hid ((((1 % m.toNat : Nat) : Int)) = 1 % m) := by show _ = _; rw [Int.natCast_emod]; congr 1; omega
  have hp : (M.pw a e m != 1 % m) = false := by
    have h3 : M.pw a e m = 1 % m := by unfold M.pw; rw [ho.out.one, h1.out]
    rw [h3]; simp
  have hd1 : decide (e < 1) = false := by simp; omega
  have hd2 : decide (e > m) = false := by simp; omega
  have hd3 : decide (m < e) = false := by simp; omega
  go_enter Try.func30, Try.ntmps30
  go_wp2_with (fail)
  go_quiet ((go_at_call 28; exact Calls.quiet_of_same (quietw (Power_any _ _ _ _ ha ham (by omega) (by omega) hm))))
  go_wp2_with (fail)
  refine (refFactor_any e L _ (by omega) (by omega) hL).mono ?_
  rintro x w1 ⟨⟨vf, rfl, hown⟩, hB1⟩
  have HB1 := Lib.hid ((below_drewN (Below.refl w.heap.size w) _).trans hB1)
  clear hB1
  have hrd := Rd.of_own hown
  clear hown
  obtain ⟨hfl, ad, cap, rfl, hcap, hcell⟩ := hrd
  have HC := Lib.hid hcell
  clear hcell hfl
  go_wp2_with (fail)
  go_loopw [8] (fun i wr => ∃ (k n : Nat), i = .int .i64 k ∧ k ≤ L.length ∧ wr = w1.drewN n) (fun i _ => L.length - (intOf i).toNat)
  case atStart => exact ⟨0, 0, rfl, by omega, rfl⟩
  case round =>
    obtain ⟨k, n, rfl, hk, rfl⟩ := hrel
    by_cases hlt : k < L.length
    · rcases HC.out with h0 | ⟨b, rfl, hb, hcell⟩
      · omega
      have c0 : w1.cell? ⟨b, k * 2, none⟩ = some (.int .i64 (L[k].1 : Int)) := hcell _ _ (flat_get L k hlt).1
      clear hcell
      have hg := hL.out.1.gt L[k] (List.getElem_mem hlt)
      have hq2 := hg.2.1.1
      have hqd : L[k].1 ∣ e.toNat := by have := M.dvd_prodP (List.getElem_mem hlt) hg.2.2; rw [hL.out.2] at this; exact this
      have hqle := Nat.le_of_dvd (by omega) hqd
      have hne : ¬ a.toNat ^ (e.toNat / L[k].1) % m.toNat = 1 % m.toNat := M.isOrd_div ho.out hq2 hqd
      obtain ⟨q, hq⟩ : ∃ q, q = L[k].1 := ⟨_, rfl⟩
      rw [← hq] at c0 hq2 hqle hne
      have hpw : (M.pw a (e / (q : Int)) m == 1 % m) = false := by
        rw [beq_eq_false_iff_ne]
        intro hc
        apply hne
        unfold M.pw at hc
        rw [← h1.out] at hc
        have e1 : (e / (q : Int)).toNat = e.toNat / q := by
          obtain ⟨E, rfl⟩ := Int.eq_ofNat_of_zero_le (show 0 ≤ e by omega)
          rw [show ((E : Int) / (q : Int)) = ((E / q : Nat) : Int) from rfl, Int.toNat_natCast, Int.toNat_natCast]
        rw [e1] at hc
        omega
      have hb : 0 ≤ e / (q : Int) ∧ e / (q : Int) ≤ e := ⟨Int.ediv_nonneg (by omega) (by omega), Int.ediv_le_self _ (by omega)⟩
      clear hq hg hqd hne
      have hz1 : ((q : Int) == 0) = false := by simp; omega
      have hz2 : ¬ q = 0 := by omega
      go_wp2_with (fail)
      go_quiet ((go_at_call 28; exact still_more _ _ fun W => Power_any a (e / (q : Int)) m W ha ham (by omega) (by omega) hm))
      go_wp2_with (fail)
      go_roundw
      case rel => exact ⟨k + 1, _, by go_num, by omega, rfl⟩
      case measure => simp [intOf]; omega
    · obtain rfl : k = L.length := by omega
      go_wp2_with (fail)
      go_ret
      exact ⟨rfl, below_drewN HB1.out _⟩

set_option maxRecDepth 100000 in
set_option maxHeartbeats 2000000 in
theorem refOrder_any (a p : Int) (o : Nat) (L2 : List (Nat × Nat)) (w : World) (ha : 0 ≤ a) (ham : a < p) (hp2 : 2 ≤ p) (hm : p ≤ 2147483647) (hL2 : Hid (M.IsFac (p.toNat - 1) L2)) (ho : Hid (M.IsOrd a.toNat o p.toNat)) (hpp : Hid (a.toNat ^ (p.toNat - 1) % p.toNat = 1 % p.toNat)) :
    Calls Try.prog 33 #[.int .i64 a, .int .i64 p] w fun x w' => x = .returned (.int .i64 (o : Int)) ∧ Below w.heap.size w w' := by
  have hlen : L2.length ≤ 30 := hL2.out.1.length_le (by rw [hL2.out.2]; omega)
  have hst : Hid (M.OAt o (p.toNat - 1) L2 0 (p.toNat - 1)) := M.OAt.start ho.out (by omega) hpp.out
  have h1p : Hid (1 % p = ((1 % p.toNat : Nat) : Int)) := by show _ = _; rw [Int.natCast_emod]; congr 1; omega
  have hL2' : Hid (M.IsFac (p - 1).toNat L2) := by have := hL2.out; rw [show (p - 1).toNat = p.toNat - 1 by omega]; exact this
  go_enter Try.func33, Try.ntmps33
  go_wp2_with (fail)
  refine (refFactor_any (p - 1) L2 _ (by omega) (by omega) hL2').mono ?_
  rintro x w1 ⟨⟨vf, rfl, hown⟩, hB1⟩
  have HB1 := Lib.hid hB1
  clear hB1
  have hrd := Rd.of_own hown
  clear hown
  obtain ⟨hfl, ad, cap, rfl, hcap, hcell⟩ := hrd
  have HC := Lib.hid hcell
  clear hcell hfl
  go_wp2_with (fail)
  go_loopw [5, 7] (fun u i wr => ∃ (k e n : Nat), i = .int .i64 k ∧ k ≤ L2.length ∧ u = .int .i64 (e : Int) ∧ 1 ≤ e ∧ e ≤ 2147483647 ∧ wr = w1.drewN n ∧ Hid (M.OAt o (p.toNat - 1) L2 k e)) (fun _ i _ => L2.length - (intOf i).toNat)
  case atStart => exact ⟨0, p.toNat - 1, 0, rfl, by omega, by congr 1; omega, by omega, by omega, rfl, hst.out⟩
  case round =>
    obtain ⟨k, e, n, rfl, hk, rfl, he0, he1, rfl, HO⟩ := hrel
    by_cases hlt : k < L2.length
    · rcases HC.out with h0 | ⟨b, rfl, hb, hcell⟩
      · omega
      have c0 : w1.cell? ⟨b, k * 2, none⟩ = some (.int .i64 (L2[k].1 : Int)) := hcell _ _ (flat_get L2 k hlt).1
      clear hcell
      have hg := hL2.out.1.gt L2[k] (List.getElem_mem hlt)
      have hq2 := hg.2.1.1
      have hqd : L2[k].1 ∣ p.toNat - 1 := by have := M.dvd_prodP (List.getElem_mem hlt) hg.2.2; rw [hL2.out.2] at this; exact this
      have hqle := Nat.le_of_dvd (by omega) hqd
      obtain ⟨q, hq⟩ : ∃ q, q = L2[k].1 := ⟨_, rfl⟩
      rw [← hq] at c0 hq2 hqle
      have HQ := Lib.hid hq
      clear hq hg hqd
      have hz1 : ((q : Int) == 0) = false := by simp; omega
      have hz2 : ¬ q = 0 := by omega
      go_wp2_with (fail)
      go_loopw [5] (fun u wr => ∃ (e n : Nat), u = .int .i64 (e : Int) ∧ 1 ≤ e ∧ e ≤ 2147483647 ∧ wr = w1.drewN n ∧ Hid (M.OAt o (p.toNat - 1) L2 k e)) (fun u _ => (intOf u).toNat)
      case atStart => exact ⟨e, n, rfl, he0, he1, rfl, HO.out⟩
      case round =>
        clear HO
        obtain ⟨e, n, rfl, he0, he1, rfl, HO⟩ := hrel
        by_cases h1 : o * q ∣ e
        · have hqe : q ∣ e := Nat.dvd_trans ⟨o, Nat.mul_comm ..⟩ h1
          have HD := Lib.hid (HO.out.div hq2 h1)
          have hlt2 := HD.out.2
          have hpos2 := HD.out.1.pos
          have hp : (M.pw a ((e : Int) / (q : Int)) p == 1 % p) = true := by rw [beq_iff_eq, (M.pw_test ho.out (by omega) hqe).2 h1, h1p.out]
          have ht : (((e : Int) % (q : Int)) == 0) = true := by rw [beq_iff_eq]; exact Int.emod_eq_zero_of_dvd (by exact_mod_cast hqe)
          have hb : 0 ≤ (e : Int) / (q : Int) ∧ (e : Int) / (q : Int) ≤ 2147483647 := ⟨Int.natCast_nonneg (e / q), by have := Nat.div_le_self e q; show ((e / q : Nat) : Int) ≤ _; omega⟩
          clear h1 hqe
          go_wp2_with (fail)
          go_quiet ((go_at_call 28; exact still_more _ _ fun W => Power_any a ((e : Int) / (q : Int)) p W ha ham (by omega) (by omega) hm))
          go_wp2_with (fail)
          go_roundw
          case rel => exact ⟨e / q, _, rfl, hpos2, by omega, rfl, HD.out.1⟩
          case measure => simp [intOf]; show (e / q : Nat) < e; exact hlt2
        · have HN : Hid (M.OAt o (p.toNat - 1) L2 (k + 1) e) := HO.out.next hlt (by rw [← HQ.out]; exact h1)
          by_cases hqe : q ∣ e
          · have hp : (M.pw a ((e : Int) / (q : Int)) p == 1 % p) = false := by rw [beq_eq_false_iff_ne]; intro hc; exact h1 ((M.pw_test ho.out (by omega) hqe).1 (by rw [hc, h1p.out]))
            have ht : (((e : Int) % (q : Int)) == 0) = true := by rw [beq_iff_eq]; exact Int.emod_eq_zero_of_dvd (by exact_mod_cast hqe)
            have hb : 0 ≤ (e : Int) / (q : Int) ∧ (e : Int) / (q : Int) ≤ 2147483647 := ⟨Int.natCast_nonneg (e / q), by have := Nat.div_le_self e q; show ((e / q : Nat) : Int) ≤ _; omega⟩
            clear h1 hqe
            go_wp2_with (fail)
            go_quiet ((go_at_call 28; exact still_more _ _ fun W => Power_any a ((e : Int) / (q : Int)) p W ha ham (by omega) (by omega) hm))
            go_wp2_with (fail)
            go_roundw
            case rel => exact ⟨k + 1, e, _, by go_num, by omega, rfl, he0, he1, rfl, HN.out⟩
            case measure => simp [intOf]; omega
          · have ht : (((e : Int) % (q : Int)) == 0) = false := by rw [beq_eq_false_iff_ne]; intro hc; exact hqe (by exact_mod_cast Int.dvd_of_emod_eq_zero hc)
            clear h1 hqe
            go_wp2_with (fail)
            go_quiet (fail)
            go_wp2_with (fail)
            go_roundw
            case rel => exact ⟨k + 1, e, _, by go_num, by omega, rfl, he0, he1, rfl, HN.out⟩
            case measure => simp [intOf]; omega
    · obtain rfl : k = L2.length := by omega
      go_wp2_with (fail)
      go_ret
      exact ⟨ret_i (by rw [HO.out.finish hL2.out]), below_drewN HB1.out _⟩

end Go.Proofs.Ytjlcbejgmjiffaa
