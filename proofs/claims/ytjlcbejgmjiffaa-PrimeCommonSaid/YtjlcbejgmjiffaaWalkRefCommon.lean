/- The walks over the reference's Least and Common. -/
import Derived.Test.YtjlcbejgmjiffaaWalkAwake
namespace Go.Proofs.Ytjlcbejgmjiffaa
open Go.RowKit

theorem ret_2bb {a : Int} {c d : Bool} (h : c = d) : Ending.returned (.tuple #[.int .i64 a, .bool c]) = .returned (.tuple #[.int .i64 a, .bool d]) := by rw [h]

theorem Gcd_is (a b : Int) (g : Nat) (w : World) (ha : 0 ≤ a) (ha2 : a ≤ 9223372036854775807) (hb : 0 ≤ b) (hb2 : b ≤ 9223372036854775807) (hg : Hid (gcdI a b = g)) :
    Calls Try.prog 50 #[.int .i64 a, .int .i64 b] w fun e w' => e = .returned (.int .i64 g) ∧ w = w' :=
  (Gcd_any a b w ha ha2 hb hb2).mono fun e w' ⟨he, hw⟩ => ⟨by rw [he, hg.out], hw⟩

theorem gcd_mod (all m : Nat) : gcdI (m : Int) ((all : Int) % (m : Int)) = (Nat.gcd all m : Nat) := by
  unfold gcdI
  have : ((all : Int) % (m : Int)).toNat = all % m := by exact_mod_cast Int.toNat_natCast (all % m)
  rw [this, Int.toNat_natCast, Nat.gcd_comm m, ← Nat.gcd_rec, Nat.gcd_comm]

set_option maxRecDepth 100000 in
set_option maxHeartbeats 1000000 in
theorem Least_no (Q : List Nat) (v : Value) (w : World) (hr : Hid (Rd w v 1 Q.length (ints Q))) (hlen : Q.length ≤ 32) (hQ : Hid (∀ q ∈ Q, 1 ≤ q ∧ q ≤ 2147483647)) (t : Bool) (ht : Hid (M.small 1 Q = t)) :
    Calls Try.prog 60 #[v] w fun x w' => (∃ z, x = .returned (.tuple #[.int .i64 z, .bool t])) ∧ ∃ n, w' = w.drewN n := by
  obtain ⟨hfl, a, cap, rfl, hcap, hcell⟩ := hr.out
  have HC := Lib.hid hcell
  clear hcell hfl hr
  go_enter Try.func60, Try.ntmps60
  go_wp2_with (fail)
  go_loopw [4, 5] (fun al i wr => ∃ (k all n : Nat), i = .int .i64 k ∧ al = .int .i64 all ∧ k ≤ Q.length ∧ 1 ≤ all ∧ all ≤ 4611686018427387904 ∧ wr = w.drewN n ∧ Hid (M.small all (Q.drop k) = t)) (fun _ i _ => Q.length - (intOf i).toNat)
  case atStart => exact ⟨0, 1, 0, rfl, rfl, by omega, by omega, by omega, rfl, ht.out⟩
  case round =>
    obtain ⟨k, all, n, rfl, rfl, hk, ha1, ha2, rfl, HS⟩ := hrel
    by_cases hlt : k < Q.length
    · rcases HC.out with h0 | ⟨b, rfl, hb, hcell⟩
      · omega
      have c0 : w.cell? ⟨b, k, none⟩ = some (.int .i64 (Q[k] : Int)) := hcell _ _ (ints_get Q k hlt)
      clear hcell
      have hq := hQ.out Q[k] (List.getElem_mem hlt)
      have hd : Q.drop k = Q[k] :: Q.drop (k + 1) := List.drop_eq_getElem_cons hlt
      have HS' := HS.out
      rw [hd] at HS'
      clear hd HS
      obtain ⟨m, hm⟩ : ∃ m, m = Q[k] := ⟨_, rfl⟩
      rw [← hm] at c0 hq HS'
      clear hm
      obtain ⟨g1, e1, e2, _, hN1, _, hNm⟩ := M.gcd_parts (all := all) (m := m) ha1 hq.1
      rw [M.small] at HS'
      obtain ⟨g, hg⟩ : ∃ g, Nat.gcd all m = g := ⟨_, rfl⟩
      rw [hg] at HS' g1 hN1 hNm
      have HG : Hid (gcdI (m : Int) ((all : Int) % (m : Int)) = (g : Nat)) := by show _ = _; rw [gcd_mod, hg]
      clear e1 e2 hg
      obtain ⟨N, hN⟩ : ∃ N, N = m / g := ⟨_, rfl⟩
      rw [← hN] at HS' hN1 hNm
      have hNc : (m : Int) / (g : Int) = (N : Int) := by rw [hN]; rfl
      clear hN
      have hz : ¬ N = 0 := by omega
      have hz2 : ¬ g = 0 := by omega
      have hz3 : ¬ m = 0 := by omega
      have hz4 : ((m : Int) == 0) = false := by simp; omega
      have hz5 : ((g : Int) == 0) = false := by simp; omega
      have hmb := emod_bd (all : Int) (m : Int) (by omega)
      by_cases hbig : M.maxMul / N < all
      · have hdc : decide ((4611686018427387904 : Int) / (N : Int) < (all : Int)) = true := by
          rw [decide_eq_true_eq]
          have : ((4611686018427387904 : Int) / (N : Int)) = ((M.maxMul / N : Nat) : Int) := rfl
          omega
        rw [if_pos hbig] at HS'
        have HT := Lib.hid HS'
        clear HS' hbig
        go_wp2_with (fail)
        go_quiet ((go_at_call 50; exact still_more _ _ fun W => Gcd_is _ _ g W (by omega) (by omega) hmb.1 (by omega) HG))
        go_wp2_with (fail)
        go_ret2
        exact ⟨⟨0, ret_2bb HT.out⟩, _, rfl⟩
      · have hdc : decide ((4611686018427387904 : Int) / (N : Int) < (all : Int)) = false := by
          rw [decide_eq_false_iff_not]
          have : ((4611686018427387904 : Int) / (N : Int)) = ((M.maxMul / N : Nat) : Int) := rfl
          omega
        rw [if_neg hbig] at HS'
        have HT := Lib.hid HS'
        have hle : all * N ≤ 4611686018427387904 := by
          have h2 : all ≤ M.maxMul / N := by omega
          exact (Nat.le_div_iff_mul_le hN1).1 h2
        have hmul : 0 ≤ (all : Int) * (N : Int) ∧ (all : Int) * (N : Int) ≤ 4611686018427387904 := by
          rw [show (all : Int) * (N : Int) = ((all * N : Nat) : Int) by simp]; omega
        have hpos : 1 ≤ all * N := Nat.mul_pos ha1 hN1
        clear HS' hbig
        go_wp2_with (fail)
        go_quiet ((go_at_call 50; exact still_more _ _ fun W => Gcd_is _ _ g W (by omega) (by omega) hmb.1 (by omega) HG))
        go_wp2_with (fail)
        go_roundw
        case rel => exact ⟨k + 1, all * N, _, by go_num, by simp, by omega, hpos, hle, rfl, HT.out⟩
        case measure => simp [intOf]; omega
    · obtain rfl : k = Q.length := by omega
      have HT : Hid (t = true) := by have := HS.out; rw [List.drop_length, M.small] at this; exact this.symm
      go_wp2_with (fail)
      go_ret2
      exact ⟨⟨_, ret_2bb HT.out.symm⟩, _, rfl⟩

def RefPost (o : Option (Nat × Nat)) (w : World) (e : Ending) (w' : World) : Prop :=
  (match o with
    | some (x, all) => e = .returned (.tuple #[.int .i64 x, .int .i64 all, .int .i64 0])
    | none => e = .returned (.tuple #[.int .i64 0, .int .i64 0, .int .i64 6])) ∧ ∃ n, w' = w.drewN n

/-- The reference's gap. -/
theorem far_facts {x all r m : Nat} (hm : 1 ≤ m) (hr : r < m) (ha : 1 ≤ all) :
    ∃ F : Nat, ((r : Int) - (x : Int) % (m : Int)).tmod m = (r : Int) - (x : Int) % (m : Int) ∧ ((r : Int) - (x : Int) % (m : Int) + (m : Int)) % (m : Int) = (F : Int) ∧ F < m ∧
      (((Nat.gcd all m : Nat) : Int) ∣ (r : Int) - x ↔ Nat.gcd all m ∣ F) ∧
      (((Nat.gcd all m : Nat) : Int) ∣ (r : Int) - x → ((m / Nat.gcd all m : Nat) : Int) ∣ ((F / Nat.gcd all m : Nat) : Int) - ((r : Int) - x) / ((Nat.gcd all m : Nat) : Int)) := by
  have h0 := Int.emod_nonneg (x : Int) (show (m : Int) ≠ 0 by omega)
  have h1 := Int.emod_lt_of_pos (x : Int) (show (0 : Int) < m by omega)
  have h2 := Int.emod_nonneg ((r : Int) - (x : Int) % (m : Int) + (m : Int)) (show (m : Int) ≠ 0 by omega)
  have h3 := Int.emod_lt_of_pos ((r : Int) - (x : Int) % (m : Int) + (m : Int)) (show (0 : Int) < m by omega)
  obtain ⟨F, hF⟩ := Int.eq_ofNat_of_zero_le h2
  have hdiff : (m : Int) ∣ (F : Int) - ((r : Int) - x) := by
    have e1 := Int.mul_ediv_add_emod ((r : Int) - (x : Int) % (m : Int) + (m : Int)) m
    have e2 := Int.mul_ediv_add_emod (x : Int) m
    rw [hF] at e1
    generalize ((r : Int) - (x : Int) % (m : Int) + (m : Int)) / (m : Int) = c at e1
    generalize (x : Int) / (m : Int) = d at e2
    refine ⟨1 - c + d, ?_⟩
    grind
  obtain ⟨g1, _, e2, _, hN1, _, _⟩ := M.gcd_parts (all := all) (m := m) ha hm
  have hgm : ((Nat.gcd all m : Nat) : Int) ∣ (m : Int) := Int.natCast_dvd_natCast.2 (Nat.gcd_dvd_right all m)
  refine ⟨F, ?_, hF, by omega, ?_, ?_⟩
  · by_cases hn : 0 ≤ (r : Int) - (x : Int) % (m : Int)
    · exact Int.tmod_eq_of_lt hn (by omega)
    · obtain ⟨z, hz⟩ : ∃ z, (r : Int) - (x : Int) % (m : Int) = -z := ⟨-((r : Int) - (x : Int) % (m : Int)), by omega⟩
      rw [hz, Int.neg_tmod, Int.tmod_eq_of_lt (by omega) (by omega)]
  · rw [← Int.natCast_dvd_natCast]
    have hgd := Int.dvd_trans hgm hdiff
    constructor
    · intro h
      have := Int.dvd_add hgd h
      rwa [Int.sub_add_cancel] at this
    · intro h
      have := Int.dvd_sub h hgd
      rwa [show (F : Int) - ((F : Int) - ((r : Int) - x)) = (r : Int) - x by omega] at this
  · intro h
    have hgd := Int.dvd_trans hgm hdiff
    have hgF : ((Nat.gcd all m : Nat) : Int) ∣ (F : Int) := by
      have := Int.dvd_add hgd h
      rwa [Int.sub_add_cancel] at this
    generalize hgg : Nat.gcd all m = g at *
    obtain ⟨c, hc⟩ := hdiff
    have hN : (m : Int) = (g : Int) * ((m / g : Nat) : Int) := by rw [← Int.natCast_mul, ← e2]
    have e3 : ((F / g : Nat) : Int) = (F : Int) / (g : Int) := rfl
    rw [e3]
    refine ⟨c, ?_⟩
    have h4 := Int.mul_ediv_cancel' hgF
    have h5 := Int.mul_ediv_cancel' h
    generalize (F : Int) / (g : Int) = y at *
    generalize ((r : Int) - x) / (g : Int) = z at *
    generalize ((m / g : Nat) : Int) = N at *
    have h6 : (g : Int) * (y - z) = (g : Int) * (N * c) := by
      rw [Int.mul_sub, h4, h5, hc, hN]; grind
    exact Int.eq_of_mul_eq_mul_left (by omega) h6

set_option maxRecDepth 100000 in
set_option maxHeartbeats 4000000 in
theorem refCommon_ok (L : List (Nat × Nat)) (vr vq : Value) (o : Option (Nat × Nat)) (w : World) (hr : Hid (Rd w vr 1 L.length (ints (firsts L)))) (hq : Hid (Rd w vq 1 L.length (ints (seconds L)))) (hL : Hid (Valid L)) (hs : Hid (M.small 1 (seconds L) = true)) (ho : Hid (M.crt 0 1 L = o)) :
    Calls Try.prog 36 #[vr, vq] w (RefPost o w) := by
  have hlen := hL.out.1
  have hq'' : Hid (Rd w vq 1 (seconds L).length (ints (seconds L))) := by show Rd _ _ _ _ _; simpa [seconds] using hq.out
  have hQ : Hid (∀ q ∈ seconds L, 1 ≤ q ∧ q ≤ 2147483647) := by
    intro q hq
    obtain ⟨x, hx, rfl⟩ := List.mem_map.1 hq
    have := hL.out.2 x hx
    omega
  have hvq := hq.out
  obtain ⟨_, a, cap, rfl, hcap, hcell⟩ := hr.out
  obtain ⟨_, a2, cap2, rfl, hcap2, hcell2⟩ := hvq
  have HC := Lib.hid hcell
  have HC2 := Lib.hid hcell2
  have hd32 : decide ((32 : Int) < (L.length : Int)) = false := by simp; omega
  have hne : ((L.length : Int) != (L.length : Int)) = false := by simp
  clear hcell hcell2 hr hq
  go_enter Try.func36, Try.ntmps36
  go_wp2_with (fail)
  go_loopw [7] (fun i wr => ∃ k n : Nat, i = .int .i64 k ∧ k ≤ L.length ∧ wr = w.drewN n) (fun i _ => L.length - (intOf i).toNat)
  case atStart => exact ⟨0, 0, rfl, by omega, rfl⟩
  case round =>
    obtain ⟨k, n, rfl, hk, rfl⟩ := hrel
    by_cases hlt : k < L.length
    · rcases HC.out with h0 | ⟨b, rfl, hb, hcell⟩
      · omega
      rcases HC2.out with h0 | ⟨b2, rfl, hb2, hcell2⟩
      · omega
      have c0 : w.cell? ⟨b, k, none⟩ = some (.int .i64 (L[k].1 : Int)) := hcell _ _ (by simp [ints, firsts, hlt])
      have c2 : w.cell? ⟨b2, k, none⟩ = some (.int .i64 (L[k].2 : Int)) := hcell2 _ _ (by simp [ints, seconds, hlt])
      clear hcell hcell2
      have hv := hL.out.2 L[k] (List.getElem_mem hlt)
      obtain ⟨r, hrr⟩ : ∃ r, r = L[k].1 := ⟨_, rfl⟩
      obtain ⟨m, hm⟩ : ∃ m, m = L[k].2 := ⟨_, rfl⟩
      rw [← hrr] at c0 hv
      rw [← hm] at c2 hv
      clear hrr hm
      have ht1 : decide ((r : Int) < 0) = false := by simp
      have ht2 : decide (m ≤ r) = false := by simp; omega
      have ht3 : decide ((m : Int) ≤ (r : Int)) = false := by simp; omega
      go_wp2_with (fail)
      go_quiet ((go_at_call 17; exact still_more _ _ fun W => Number_yes _ W (by omega) (by omega)))
      go_wp2_with (fail)
      go_roundw
      case rel => exact ⟨k + 1, _, by go_num, by omega, rfl⟩
      case measure => simp [intOf]; omega
    · obtain rfl : k = L.length := by omega
      go_wp2_with (fail)
      refine (Least_no (seconds L) _ _ (hq''.out.below (below_drewN (Below.refl w.heap.size w) n) (Nat.le_refl _)) (by simpa [seconds] using hlen) hQ true hs).mono ?_
      rintro e w' ⟨⟨z, rfl⟩, n2, rfl⟩
      go_wp2_with (fail)
      go_loopw [10, 11, 12] (fun xv al i wr => ∃ (k x all n : Nat), i = .int .i64 k ∧ xv = .int .i64 x ∧ al = .int .i64 all ∧ k ≤ L.length ∧ x < all ∧ all ≤ 4611686018427387904 ∧ wr = w.drewN n ∧ Hid (M.small all (seconds (L.drop k)) = true) ∧ Hid (M.crt x all (L.drop k) = o)) (fun _ _ i _ => L.length - (intOf i).toNat)
      case atStart => exact ⟨0, 0, 1, _, rfl, rfl, rfl, by omega, by omega, by omega, rfl, hs.out, ho.out⟩
      case round =>
        obtain ⟨k, x, all, n, rfl, rfl, rfl, hk, hxa, ha2, rfl, HS, HC'⟩ := hrel
        by_cases hlt : k < L.length
        · rcases HC.out with h0 | ⟨b, rfl, hb, hcell⟩
          · omega
          rcases HC2.out with h0 | ⟨b2, rfl, hb2, hcell2⟩
          · omega
          have c0 : w.cell? ⟨b, k, none⟩ = some (.int .i64 (L[k].1 : Int)) := hcell _ _ (by simp [ints, firsts, hlt])
          have c2 : w.cell? ⟨b2, k, none⟩ = some (.int .i64 (L[k].2 : Int)) := hcell2 _ _ (by simp [ints, seconds, hlt])
          clear hcell hcell2
          have hv := hL.out.2 L[k] (List.getElem_mem hlt)
          have hd : L.drop k = L[k] :: L.drop (k + 1) := List.drop_eq_getElem_cons hlt
          have HS' := HS.out
          have HK' := HC'.out
          rw [hd] at HS' HK'
          clear hd HS HC'
          obtain ⟨r, hrr⟩ : ∃ r, r = L[k].1 := ⟨_, rfl⟩
          obtain ⟨m, hm⟩ : ∃ m, m = L[k].2 := ⟨_, rfl⟩
          rw [show seconds (L[k] :: L.drop (k + 1)) = m :: seconds (L.drop (k + 1)) by rw [hm]; rfl] at HS'
          rw [show L[k] = (r, m) from Prod.ext hrr.symm hm.symm] at HK'
          rw [← hrr] at c0
          rw [← hm] at c2
          rw [← hrr, ← hm] at hv
          clear hrr hm
          obtain ⟨g1, e1, e2, hcop, hN1, hA1, hNm⟩ := M.gcd_parts (all := all) (m := m) (by omega) (by omega)
          obtain ⟨hmx, hsm, _⟩ := M.small_le (by omega) (by omega) HS'
          obtain ⟨T, hT⟩ := M.exists_T (x := x) (all := all) (r := r) (m := m) (by omega) (by omega)
          obtain ⟨F, f1, f2, f3, f4, f5⟩ := far_facts (x := x) (all := all) (r := r) (m := m) (by omega) hv.1 (by omega)
          have hmb := emod_bd (all : Int) (m : Int) (by omega)
          have hxb := emod_bd (x : Int) (m : Int) (by omega)
          have hz3 : ¬ m = 0 := by omega
          have hz4 : ((m : Int) == 0) = false := by simp; omega
          have hw1 : IntKind.i64.wrap ((r : Int) - (x : Int) % (m : Int)) = (r : Int) - (x : Int) % (m : Int) := IntWalk.i64_in _ (by omega)
          have hw2 : IntKind.i64.wrap ((r : Int) - (x : Int) % (m : Int) + (m : Int)) = (r : Int) - (x : Int) % (m : Int) + (m : Int) := IntWalk.i64_in _ (by omega)
          have hx0 : 0 ≤ (r : Int) - (x : Int) % (m : Int) + (m : Int) := by omega
          by_cases hdv : ((Nat.gcd all m : Nat) : Int) ∣ (r : Int) - x
          · have hst := M.stepT_some (by omega) (by omega) hv.1 hdv hT
            have hlt2 := M.step_lt hxa hT.lt
            rw [M.crt, hst] at HK'
            have hTl := hT.lt
            have hTd := hT.dvd
            have f6 := f5 hdv
            have f7 := f4.1 hdv
            have hTF : ((m / Nat.gcd all m : Nat) : Int) ∣ ((all / Nat.gcd all m : Nat) : Int) * T - ((F / Nat.gcd all m : Nat) : Int) := by
              have := Int.dvd_sub hTd f6
              rwa [show ∀ a b c : Int, a - b - (c - b) = a - c from fun a b c => by omega] at this
            obtain ⟨i, hi0, hi1, hi⟩ := M.exists_step_inv hN1 hcop
            have hcl := M.closes (A := all / Nat.gcd all m) (D := ((F / Nat.gcd all m : Nat) : Int)) hi
            have hv2 := emod_bd (((F / Nat.gcd all m : Nat) : Int) % ((m / Nat.gcd all m : Nat) : Int) * i) ((m / Nat.gcd all m : Nat) : Int) (by omega)
            have hval := M.T_value hcop hTl hv2.1 hv2.2 hTF hcl
            have hfm := emod_bd ((F / Nat.gcd all m : Nat) : Int) ((m / Nat.gcd all m : Nat) : Int) (by omega)
            have ham := emod_bd ((all / Nat.gcd all m : Nat) : Int) ((m / Nat.gcd all m : Nat) : Int) (by omega)
            have hmb2 := M.mul_bd _ i _ hfm.1 hfm.2 hi0 hi1 (by omega)
            have hAle : all / Nat.gcd all m ≤ all := Nat.div_le_self _ _
            have hFle : F / Nat.gcd all m ≤ F := Nat.div_le_self _ _
            clear hst hT HS' e1 e2 hTd f4 f5 f6 hTF hcl hv2
            obtain ⟨g, hg⟩ : ∃ g, Nat.gcd all m = g := ⟨_, rfl⟩
            rw [hg] at hcop hN1 hA1 hNm hmx hsm hdv g1 hlt2 HK' hTl f7 hi hval hfm ham hmb2 hAle hFle hi1
            have HG : Hid (gcdI (m : Int) ((all : Int) % (m : Int)) = (g : Nat)) := by show _ = _; rw [gcd_mod, hg]
            obtain ⟨N, hN⟩ : ∃ N, m / g = N := ⟨_, rfl⟩
            obtain ⟨A, hA⟩ : ∃ A, all / g = A := ⟨_, rfl⟩
            obtain ⟨F2, hF2⟩ : ∃ F2, F / g = F2 := ⟨_, rfl⟩
            rw [hN] at hcop hN1 hNm hmx hsm hTl hlt2 HK' hi hval hfm ham hmb2 hi1
            rw [hA] at hcop hA1 hi ham hAle
            rw [hF2] at hval hfm hmb2 hFle
            have HK2 : Hid (M.crt (x + all * T) (all * N) (L.drop (k + 1)) = o) := HK'
            have hNc : (m : Int) / (g : Int) = (N : Int) := by rw [← hN]; rfl
            have hAc : (all : Int) / (g : Int) = (A : Int) := by rw [← hA]; rfl
            have hFc : (F : Int) / (g : Int) = (F2 : Int) := by rw [← hF2]; rfl
            have hFg : (((F : Int) % (g : Int)) != 0) = false := by
              rw [bne_eq_false_iff_eq]; exact Int.emod_eq_zero_of_dvd (by exact_mod_cast f7)
            have hz2 : ¬ g = 0 := by omega
            have hz5 : ¬ N = 0 := by omega
            have HI := Lib.hid hi
            have HSM := Lib.hid hsm
            have HVAL := Lib.hid hval
            simp only [M.maxMul] at hmx
            have haT : all * T ≤ all * N := Nat.mul_le_mul_left _ (by omega)
            have hm1 : 0 ≤ (T : Int) * (all : Int) ∧ (T : Int) * (all : Int) ≤ 4611686018427387904 := by
              rw [Int.mul_comm, show (all : Int) * (T : Int) = ((all * T : Nat) : Int) by simp]; omega
            have hm2 : 0 ≤ (all : Int) * (N : Int) ∧ (all : Int) * (N : Int) ≤ 4611686018427387904 := by
              rw [show (all : Int) * (N : Int) = ((all * N : Nat) : Int) by simp]; omega
            have hsum : Hid ((x : Int) + (T : Int) * (all : Int) = ((x + all * T : Nat) : Int)) := by
              show _ = _
              rw [Int.natCast_add, Int.natCast_mul, Int.mul_comm]
            clear HK' hg hN hA hF2 hcop hsm hdv f7 hi
            go_wp2_with (go_at_call 50; refine (Gcd_is _ _ g _ (by omega) (by omega) hmb.1 (by omega) HG).mono ?_; rintro e w' ⟨rfl, rfl⟩)
            go_quiet (fail)
            go_wp2_with (go_at_call 29; refine (Inverse_yes _ _ i _ ham.1 ham.2 (by omega) hi0 hi1 HI).mono ?_; rintro e w' ⟨rfl, rfl⟩)
            go_roundw
            case rel => exact ⟨k + 1, x + all * T, all * N, _, by go_num, congrArg _ hsum.out, by simp, by omega, hlt2, hmx, rfl, HSM.out, HK2.out⟩
            case measure => simp [intOf]; omega
          · have hst := M.stepT_none hdv
            rw [M.crt, hst] at HK'
            have HO : Hid (o = none) := HK'.symm
            have f7 : ¬ Nat.gcd all m ∣ F := fun h => hdv (f4.2 h)
            clear hst HK' HS' hdv hT e1 e2 hcop hsm hmx f4 f5
            obtain ⟨g, hg⟩ : ∃ g, Nat.gcd all m = g := ⟨_, rfl⟩
            rw [hg] at f7 g1
            have HG : Hid (gcdI (m : Int) ((all : Int) % (m : Int)) = (g : Nat)) := by show _ = _; rw [gcd_mod, hg]
            have hz2 : ¬ g = 0 := by omega
            have hFg : (((F : Int) % (g : Int)) != 0) = true := by
              rw [bne_iff_ne]; exact fun h => f7 (by exact_mod_cast Int.dvd_of_emod_eq_zero h)
            clear hg f7
            go_wp2_with (go_at_call 50; refine (Gcd_is _ _ g _ (by omega) (by omega) hmb.1 (by omega) HG).mono ?_; rintro e w' ⟨rfl, rfl⟩)
            go_quiet (fail)
            go_wp2_with (fail)
            go_ret3
            rw [HO.out]
            exact ⟨rfl, _, rfl⟩
        · obtain rfl : k = L.length := by omega
          have HO : Hid (o = some (x, all)) := by have := HC'.out; rw [List.drop_length, M.crt] at this; exact this.symm
          go_wp2_with (fail)
          go_ret3
          rw [HO.out]
          exact ⟨rfl, _, rfl⟩

/-! ### Where both say that an argument is wrong -/
def ArgPost (w : World) (e : Ending) (w' : World) : Prop := e = .returned (.tuple #[.int .i64 0, .int .i64 0, .int .i64 2]) ∧ ∃ n, w' = w.drewN n

set_option maxRecDepth 100000 in
set_option maxHeartbeats 1000000 in
theorem Common_arg (R Q : List Int) (vr vq : Value) (w : World) (hr : Hid (Rd w vr 1 R.length (intsZ R))) (hq : Hid (Rd w vq 1 Q.length (intsZ Q))) (hQl : Q.length ≤ 1000000) (h : Hid (¬ AreRests R Q)) :
    Calls Try.prog 35 #[vr, vq] w (ArgPost w) := by
  go_enter Try.func35, Try.ntmps35
  go_wp2_with (fail)
  refine (areRests_is R Q vr vq false _ hr hq hQl ⟨fun hc => absurd hc h.out, fun hc => by cases hc⟩).mono ?_
  rintro e w' ⟨rfl, rfl⟩
  go_wp2_with (fail)
  go_ret3
  exact ⟨rfl, 0, rfl⟩

theorem valid_rests {L : List (Nat × Nat)} (hL : Valid L) : AreRests ((firsts L).map Int.ofNat) ((seconds L).map Int.ofNat) := by
  refine ⟨by simp [firsts, seconds], by simpa [seconds] using hL.1, fun j hj hj' => ?_⟩
  have hjl : j < L.length := by simpa [seconds] using hj
  have := hL.2 L[j] (List.getElem_mem hjl)
  simp only [firsts, seconds, List.getElem_map, IsRest]
  exact ⟨Int.natCast_nonneg _, by show ((L[j].1 : Nat) : Int) < ((L[j].2 : Nat) : Int); omega, by show ((L[j].2 : Nat) : Int) ≤ _; omega⟩

theorem intsZ_ofNat (Q : List Nat) : intsZ (Q.map Int.ofNat) = ints Q := by simp [intsZ, ints]

set_option maxRecDepth 100000 in
set_option maxHeartbeats 1000000 in
theorem Common_big (L : List (Nat × Nat)) (vr vq : Value) (w : World) (hr : Hid (Rd w vr 1 L.length (ints (firsts L)))) (hq : Hid (Rd w vq 1 L.length (ints (seconds L)))) (hL : Hid (Valid L)) (hs : Hid (M.small 1 (seconds L) = false)) :
    Calls Try.prog 35 #[vr, vq] w (ArgPost w) := by
  have hlen := hL.out.1
  have hr' : Hid (Rd w vr 1 ((firsts L).map Int.ofNat).length (intsZ ((firsts L).map Int.ofNat))) := by show Rd _ _ _ _ _; rw [intsZ_ofNat]; simpa [firsts] using hr.out
  have hq' : Hid (Rd w vq 1 ((seconds L).map Int.ofNat).length (intsZ ((seconds L).map Int.ofNat))) := by show Rd _ _ _ _ _; rw [intsZ_ofNat]; simpa [seconds] using hq.out
  have hq'' : Hid (Rd w vq 1 (seconds L).length (ints (seconds L))) := by show Rd _ _ _ _ _; simpa [seconds] using hq.out
  have hQ : Hid (∀ q ∈ seconds L, 1 ≤ q ∧ q ≤ 2147483647) := by
    intro q hq
    obtain ⟨x, hx, rfl⟩ := List.mem_map.1 hq
    have := hL.out.2 x hx
    omega
  go_enter Try.func35, Try.ntmps35
  go_wp2_with (fail)
  refine (areRests_is _ _ vr vq true _ hr' hq' (by simp [seconds]; omega) ⟨fun _ => rfl, fun _ => valid_rests hL.out⟩).mono ?_
  rintro e w' ⟨rfl, rfl⟩
  go_wp2_with (fail)
  refine (isMultipleSmall_is (seconds L) vq false _ hq'' (by simpa [seconds] using hlen) hQ hs).mono ?_
  rintro e w' ⟨rfl, n0, rfl⟩
  go_wp2_with (fail)
  go_ret3
  exact ⟨rfl, _, rfl⟩

set_option maxRecDepth 100000 in
set_option maxHeartbeats 1000000 in
theorem refCommon_arg (R Q : List Int) (vr vq : Value) (w : World) (hr : Hid (Rd w vr 1 R.length (intsZ R))) (hq : Hid (Rd w vq 1 Q.length (intsZ Q))) (hRl : R.length ≤ 1000000) (hQl : Q.length ≤ 1000000) (h : Hid (¬ AreRests R Q)) :
    Calls Try.prog 36 #[vr, vq] w (ArgPost w) := by
  obtain ⟨_, a, cap, rfl, hcap, hcell⟩ := hr.out
  obtain ⟨_, a2, cap2, rfl, hcap2, hcell2⟩ := hq.out
  have HC := Lib.hid hcell
  have HC2 := Lib.hid hcell2
  clear hcell hcell2 hr hq
  by_cases hlen : R.length = Q.length
  · have hl1 : ((R.length : Int) != (Q.length : Int)) = false := by simp [hlen]
    have HLE := Lib.hid hlen
    have hlen1 : R.length ≤ Q.length := by omega
    have hlen2 : Q.length ≤ R.length := by omega
    clear hlen
    by_cases h32 : Q.length ≤ 32
    · have hd : decide ((32 : Int) < (R.length : Int)) = false := by simp; omega
      go_enter Try.func36, Try.ntmps36
      go_wp2_with (fail)
      go_loopw [7] (fun i wr => ∃ (k n : Nat), i = .int .i64 k ∧ k ≤ Q.length ∧ wr = w.drewN n ∧ Hid (∀ j (h : j < Q.length) (h' : j < R.length), j < k → IsRest R[j] Q[j])) (fun i _ => Q.length - (intOf i).toNat)
      case atStart => exact ⟨0, 0, rfl, by omega, rfl, fun j _ _ hj => by omega⟩
      case round =>
        obtain ⟨k, n, rfl, hk, rfl, HK⟩ := hrel
        by_cases hlt : k < Q.length
        · have hlt2 : k < R.length := by omega
          rcases HC.out with h0 | ⟨b, rfl, hb, hcell⟩
          · omega
          rcases HC2.out with h0 | ⟨b2, rfl, hb2, hcell2⟩
          · omega
          have c0 : w.cell? ⟨b, k, none⟩ = some (.int .i64 R[k]) := hcell _ _ (intsZ_get R k hlt2)
          have c2 : w.cell? ⟨b2, k, none⟩ = some (.int .i64 Q[k]) := hcell2 _ _ (intsZ_get Q k hlt)
          clear hcell hcell2
          obtain ⟨r, hrk⟩ : ∃ r, r = R[k] := ⟨_, rfl⟩
          obtain ⟨m, hmk⟩ : ∃ m, m = Q[k] := ⟨_, rfl⟩
          rw [← hrk] at c0
          rw [← hmk] at c2
          have HR := Lib.hid (And.intro hrk hmk)
          clear hrk hmk
          by_cases hm : m < 1 ∨ 2147483647 < m
          · go_wp2_with (fail)
            go_quiet ((go_at_call 17; exact still_more _ _ fun W => Number_no _ W hm))
            go_wp2_with (fail)
            go_ret3
            exact ⟨rfl, _, World.drewN_drewN ..⟩
          · have hm1 : 1 ≤ m := by omega
            have hm2 : m ≤ 2147483647 := by omega
            clear hm
            by_cases hr0 : r < 0
            · have hd1 : decide (r < 0) = true := by simpa using hr0
              go_wp2_with (fail)
              go_quiet ((go_at_call 17; exact still_more _ _ fun W => Number_yes _ W hm1 hm2))
              go_wp2_with (fail)
              go_ret3
              exact ⟨rfl, _, World.drewN_drewN ..⟩
            · have hd1 : decide (r < 0) = false := by simpa using hr0
              by_cases hrm : m ≤ r
              · have hd2 : decide (m ≤ r) = true := by simpa using hrm
                go_wp2_with (fail)
                go_quiet ((go_at_call 17; exact still_more _ _ fun W => Number_yes _ W hm1 hm2))
                go_wp2_with (fail)
                go_ret3
                exact ⟨rfl, _, World.drewN_drewN ..⟩
              · have hd2 : decide (m ≤ r) = false := by simpa using hrm
                have HIR : Hid (IsRest r m) := ⟨by omega, by omega, hm2⟩
                go_wp2_with (fail)
                go_quiet ((go_at_call 17; exact still_more _ _ fun W => Number_yes _ W hm1 hm2))
                go_wp2_with (fail)
                go_roundw
                case rel =>
                  refine ⟨k + 1, _, by go_num, by omega, rfl, fun j hj hj' hjk => ?_⟩
                  by_cases e1 : j = k
                  · subst e1; rw [← HR.out.1, ← HR.out.2]; exact HIR.out
                  · exact HK.out j hj hj' (by omega)
                case measure => simp [intOf]; omega
        · exfalso
          exact h.out ⟨HLE.out, h32, fun j hj hj' => HK.out j hj hj' (by omega)⟩
    · have hd : decide ((32 : Int) < (R.length : Int)) = true := by simp; omega
      go_enter Try.func36, Try.ntmps36
      go_wp2_with (fail)
      go_ret3
      exact ⟨rfl, 0, rfl⟩
  · have hl1 : ((R.length : Int) != (Q.length : Int)) = true := by simp; omega
    clear hlen
    go_enter Try.func36, Try.ntmps36
    go_wp2_with (fail)
    go_ret3
    exact ⟨rfl, 0, rfl⟩

set_option maxRecDepth 100000 in
set_option maxHeartbeats 4000000 in
theorem refCommon_big (L : List (Nat × Nat)) (vr vq : Value) (w : World) (hr : Hid (Rd w vr 1 L.length (ints (firsts L)))) (hq : Hid (Rd w vq 1 L.length (ints (seconds L)))) (hL : Hid (Valid L)) (hs : Hid (M.small 1 (seconds L) = false)) :
    Calls Try.prog 36 #[vr, vq] w (ArgPost w) := by
  have hlen := hL.out.1
  have hq'' : Hid (Rd w vq 1 (seconds L).length (ints (seconds L))) := by show Rd _ _ _ _ _; simpa [seconds] using hq.out
  have hQ : Hid (∀ q ∈ seconds L, 1 ≤ q ∧ q ≤ 2147483647) := by
    intro q hq
    obtain ⟨x, hx, rfl⟩ := List.mem_map.1 hq
    have := hL.out.2 x hx
    omega
  have hvq := hq.out
  obtain ⟨_, a, cap, rfl, hcap, hcell⟩ := hr.out
  obtain ⟨_, a2, cap2, rfl, hcap2, hcell2⟩ := hvq
  have HC := Lib.hid hcell
  have HC2 := Lib.hid hcell2
  have hd32 : decide ((32 : Int) < (L.length : Int)) = false := by simp; omega
  have hne : ((L.length : Int) != (L.length : Int)) = false := by simp
  clear hcell hcell2 hr hq
  go_enter Try.func36, Try.ntmps36
  go_wp2_with (fail)
  go_loopw [7] (fun i wr => ∃ k n : Nat, i = .int .i64 k ∧ k ≤ L.length ∧ wr = w.drewN n) (fun i _ => L.length - (intOf i).toNat)
  case atStart => exact ⟨0, 0, rfl, by omega, rfl⟩
  case round =>
    obtain ⟨k, n, rfl, hk, rfl⟩ := hrel
    by_cases hlt : k < L.length
    · rcases HC.out with h0 | ⟨b, rfl, hb, hcell⟩
      · omega
      rcases HC2.out with h0 | ⟨b2, rfl, hb2, hcell2⟩
      · omega
      have c0 : w.cell? ⟨b, k, none⟩ = some (.int .i64 (L[k].1 : Int)) := hcell _ _ (by simp [ints, firsts, hlt])
      have c2 : w.cell? ⟨b2, k, none⟩ = some (.int .i64 (L[k].2 : Int)) := hcell2 _ _ (by simp [ints, seconds, hlt])
      clear hcell hcell2
      have hv := hL.out.2 L[k] (List.getElem_mem hlt)
      obtain ⟨r, hrr⟩ : ∃ r, r = L[k].1 := ⟨_, rfl⟩
      obtain ⟨m, hm⟩ : ∃ m, m = L[k].2 := ⟨_, rfl⟩
      rw [← hrr] at c0 hv
      rw [← hm] at c2 hv
      clear hrr hm
      have ht1 : decide ((r : Int) < 0) = false := by simp
      have ht2 : decide (m ≤ r) = false := by simp; omega
      have ht3 : decide ((m : Int) ≤ (r : Int)) = false := by simp; omega
      go_wp2_with (fail)
      go_quiet ((go_at_call 17; exact still_more _ _ fun W => Number_yes _ W (by omega) (by omega)))
      go_wp2_with (fail)
      go_roundw
      case rel => exact ⟨k + 1, _, by go_num, by omega, rfl⟩
      case measure => simp [intOf]; omega
    · obtain rfl : k = L.length := by omega
      go_wp2_with (fail)
      refine (Least_no (seconds L) _ _ (hq''.out.below (below_drewN (Below.refl w.heap.size w) n) (Nat.le_refl _)) (by simpa [seconds] using hlen) hQ false hs).mono ?_
      rintro e w' ⟨⟨z, rfl⟩, n2, rfl⟩
      go_wp2_with (fail)
      go_ret3
      exact ⟨rfl, _, rfl⟩

end Go.Proofs.Ytjlcbejgmjiffaa
