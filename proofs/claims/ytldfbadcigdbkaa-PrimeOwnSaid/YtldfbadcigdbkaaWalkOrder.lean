/- The walk over prime.orderOf. -/
import Derived.Test.YtldfbadcigdbkaaWalkOrd
import Derived.Test.YtldfbadcigdbkaaOAt
namespace Go.Proofs.Ytldfbadcigdbkaa
open Go.RowKit

set_option maxRecDepth 100000 in
set_option maxHeartbeats 1000000 in
theorem orderOf_any (a m : Int) (o : Nat) (L L2 : List (Nat × Nat)) (w : World) (ha : 0 ≤ a) (ham : a < m) (hm : m ≤ 2147483647) (hL : Hid (M.IsFac m.toNat L)) (hL2 : Hid (M.IsFac (M.phiP L) L2)) (ho : Hid (M.IsOrd a.toNat o m.toNat)) :
    Calls Try.prog 40 #[.int .i64 a, .int .i64 m] w fun x w' => x = .returned (.int .i64 (o : Int)) ∧ Below w.heap.size w w' := by
  have hphi1 := hL.out.1.phi_pos
  have hphi2 : M.phiP L ≤ 2147483647 := by have := hL.out.1.phi_le; rw [hL.out.2] at this; omega
  have hlen : L2.length ≤ 30 := hL2.out.1.length_le (by rw [hL2.out.2]; omega)
  have hst : Hid (M.OAt o (M.phiP L) L2 0 (M.phiP L)) := M.OAt.start ho.out hphi1 (by
    have := hL.out.1.euler (a := a.toNat) (by rw [hL.out.2]; exact M.coprime_of_pow ho.out.pos ho.out.one)
    rw [hL.out.2] at this; exact this)
  go_enter Try.func40, Try.ntmps40
  go_wp2_with (fail)
  refine (unitsOf_any m L _ (by omega) hm hL).mono ?_
  rintro x w1 ⟨rfl, hB1⟩
  have HB1 := Lib.hid hB1
  clear hB1
  go_wp2_with (fail)
  refine (primesOf_any _ L2 _ (by omega) (by omega) (by rw [Int.toNat_natCast]; exact hL2)).mono ?_
  rintro x w2 ⟨⟨vf, rfl, hown⟩, hB2⟩
  have HB2 := Lib.hid (HB1.out.trans (hB2.mono HB1.out.size))
  have hrd := Rd.of_own hown
  clear hown hB2
  obtain ⟨hfl, ad, cap, rfl, hcap, hcell⟩ := hrd
  have HC := Lib.hid hcell
  clear hcell hfl
  go_wp2_with (fail)
  go_loop [5, 13] (fun u i => ∃ (k e : Nat), i = .int .i64 k ∧ k ≤ L2.length ∧ u = .int .i64 (e : Int) ∧ 1 ≤ e ∧ e ≤ 2147483647 ∧ Hid (M.OAt o (M.phiP L) L2 k e)) (fun _ i => L2.length - (intOf i).toNat)
  case atStart => exact ⟨0, M.phiP L, rfl, by omega, rfl, hphi1, hphi2, hst⟩
  case round =>
    obtain ⟨k, e, rfl, hk, rfl, he0, he1, HO⟩ := hrel
    by_cases hlt : k < L2.length
    · rcases HC.out with h0 | ⟨b, rfl, hb, hcell⟩
      · omega
      have c0 : w2.cell? ⟨b, k, none⟩ = some (.int .i64 (L2[k].1 : Int)) := hcell _ _ (by simp [heads, hlt])
      clear hcell
      have hg := hL2.out.1.gt L2[k] (List.getElem_mem hlt)
      have hq2 := hg.2.1.1
      have hqd : L2[k].1 ∣ M.phiP L := by have := M.dvd_prodP (List.getElem_mem hlt) hg.2.2; rw [hL2.out.2] at this; exact this
      have hqle := Nat.le_of_dvd hphi1 hqd
      have hm1 : Hid (((1 % m.toNat : Nat) : Int) = 1) := by
        have := hL.out.1.phi_le; rw [hL.out.2] at this
        show _ = _; rw [Nat.mod_eq_of_lt (by omega)]; rfl
      obtain ⟨q, hq⟩ : ∃ q, q = L2[k].1 := ⟨_, rfl⟩
      rw [← hq] at c0 hq2 hqle
      have HQ := Lib.hid hq
      clear hq hg hqd
      go_wp2_with (fail)
      go_loop [5] (fun u => ∃ (e : Nat), u = .int .i64 (e : Int) ∧ 1 ≤ e ∧ e ≤ 2147483647 ∧ Hid (M.OAt o (M.phiP L) L2 k e)) (fun u => (intOf u).toNat)
      case atStart => exact ⟨e, rfl, he0, he1, HO.out⟩
      case round =>
        clear HO
        obtain ⟨e, rfl, he0, he1, HO⟩ := hrel
        by_cases h1 : o * q ∣ e
        · have hqe : q ∣ e := Nat.dvd_trans ⟨o, Nat.mul_comm ..⟩ h1
          have HD := Lib.hid (HO.out.div hq2 h1)
          have hlt2 := HD.out.2
          have hpos2 := HD.out.1.pos
          have hp : (M.pw a ((e : Int) / (q : Int)) m == 1) = true := by rw [beq_iff_eq, (M.pw_test ho.out (by omega) hqe).2 h1, hm1.out]
          have ht : (((e : Int) % (q : Int)) == 0) = true := by rw [beq_iff_eq]; exact Int.emod_eq_zero_of_dvd (by exact_mod_cast hqe)
          have hb : 0 ≤ (e : Int) / (q : Int) ∧ (e : Int) / (q : Int) ≤ 2147483647 := by have : (e : Int) / (q : Int) = ((e / q : Nat) : Int) := rfl; omega
          clear h1 hqe
          go_wp2_with (go_at_call 41; refine (raise_any a _ m _ ha ham (by omega) (by omega) hm).mono ?_; rintro x w' ⟨rfl, rfl⟩)
          go_round
          case rel => exact ⟨e / q, rfl, hpos2, by omega, HD.out.1⟩
          case measure => simp [intOf]; show (e / q : Nat) < e; exact hlt2
        · have HN : Hid (M.OAt o (M.phiP L) L2 (k + 1) e) := HO.out.next hlt (by rw [← HQ.out]; exact h1)
          by_cases hqe : q ∣ e
          · have hp : (M.pw a ((e : Int) / (q : Int)) m == 1) = false := by rw [beq_eq_false_iff_ne]; intro hc; exact h1 ((M.pw_test ho.out (by omega) hqe).1 (by rw [hc, hm1.out]))
            have ht : (((e : Int) % (q : Int)) == 0) = true := by rw [beq_iff_eq]; exact Int.emod_eq_zero_of_dvd (by exact_mod_cast hqe)
            have hb : 0 ≤ (e : Int) / (q : Int) ∧ (e : Int) / (q : Int) ≤ 2147483647 := ⟨Int.natCast_nonneg (e / q), by have := Nat.div_le_self e q; show ((e / q : Nat) : Int) ≤ _; omega⟩
            clear h1 hqe
            go_wp2_with (go_at_call 41; refine (raise_any a _ m _ ha ham (by omega) (by omega) hm).mono ?_; rintro x w' ⟨rfl, rfl⟩)
            go_round
            case rel => exact ⟨k + 1, e, by go_num, by omega, rfl, he0, he1, HN.out⟩
            case measure => simp [intOf]; omega
          · have ht : (((e : Int) % (q : Int)) == 0) = false := by rw [beq_eq_false_iff_ne]; intro hc; exact hqe (by exact_mod_cast Int.dvd_of_emod_eq_zero hc)
            clear h1 hqe
            go_wp2_with (fail)
            go_round
            case rel => exact ⟨k + 1, e, by go_num, by omega, rfl, he0, he1, HN.out⟩
            case measure => simp [intOf]; omega
    · obtain rfl : k = L2.length := by omega
      go_wp2
      go_ret
      exact ⟨ret_i (by rw [HO.out.finish hL2.out]), HB2.out⟩

end Go.Proofs.Ytldfbadcigdbkaa
