/- The walks over areRests, isMultipleSmall, timesToClose, Common. -/
import Derived.Test.YtldfbadcigdbkaaWalkGen
import Derived.Test.YtldfbadcigdbkaaCrt
namespace Go.Proofs.Ytldfbadcigdbkaa
open Go.RowKit

def intsZ (Q : List Int) : List Value := Q.map fun q => Value.int .i64 q
theorem intsZ_get (Q : List Int) (k : Nat) (h : k < Q.length) : (intsZ Q)[k]? = some (.int .i64 Q[k]) := by simp [intsZ, h]

/-- Lists such as Common takes, but for the least common multiple. -/
def AreRests (R Q : List Int) : Prop := R.length = Q.length ∧ Q.length ≤ 32 ∧ ∀ j (h : j < Q.length) (h' : j < R.length), IsRest R[j] Q[j]

set_option maxRecDepth 100000 in
set_option maxHeartbeats 1000000 in
theorem areRests_is (R Q : List Int) (vr vq : Value) (t : Bool) (w : World) (hr : Hid (Rd w vr 1 R.length (intsZ R))) (hq : Hid (Rd w vq 1 Q.length (intsZ Q))) (hQl : Q.length ≤ 1000000) (ht : Hid (AreRests R Q ↔ t = true)) :
    Calls Try.prog 26 #[vr, vq] w fun x w' => x = .returned (.bool t) ∧ w = w' := by
  obtain ⟨_, a, cap, rfl, hcap, hcell⟩ := hr.out
  obtain ⟨_, a2, cap2, rfl, hcap2, hcell2⟩ := hq.out
  have HC := Lib.hid hcell
  have HC2 := Lib.hid hcell2
  clear hcell hcell2 hr hq
  by_cases hlen : R.length = Q.length
  · have hl1 : ((R.length : Int) != (Q.length : Int)) = false := by simp [hlen]
    have HLE := Lib.hid hlen
    have hlen1 : R.length ≤ Q.length := by omega
    have hlen2 : Q.length ≤ R.length := by omega
    clear hlen
    by_cases h32 : Q.length ≤ 32
    · have hd : decide ((32 : Int) < (Q.length : Int)) = false := by simp; omega
      go_enter Try.func26, Try.ntmps26
      go_wp2_with (fail)
      go_loop [19] (fun i => ∃ (k : Nat), i = .int .i64 k ∧ k ≤ Q.length ∧ Hid (∀ j (h : j < Q.length) (h' : j < R.length), j < k → IsRest R[j] Q[j])) (fun i => Q.length - (intOf i).toNat)
      case atStart => exact ⟨0, rfl, by omega, fun j _ _ hj => by omega⟩
      case round =>
        obtain ⟨k, rfl, hk, HK⟩ := hrel
        by_cases hlt : k < Q.length
        · have hlt2 : k < R.length := by omega
          rcases HC.out with h0 | ⟨b, rfl, hb, hcell⟩
          · omega
          rcases HC2.out with h0 | ⟨b2, rfl, hb2, hcell2⟩
          · omega
          have c0 : w.cell? ⟨b, k, none⟩ = some (.int .i64 R[k]) := hcell _ _ (intsZ_get R k hlt2)
          have c2 : w.cell? ⟨b2, k, none⟩ = some (.int .i64 Q[k]) := hcell2 _ _ (intsZ_get Q k hlt)
          clear hcell hcell2
          obtain ⟨r, hrk⟩ : ∃ r, r = R[k] := ⟨_, rfl⟩
          obtain ⟨m, hmk⟩ : ∃ m, m = Q[k] := ⟨_, rfl⟩
          rw [← hrk] at c0
          rw [← hmk] at c2
          have HR := Lib.hid (And.intro hrk hmk)
          clear hrk hmk
          by_cases hir : IsRest r m
          · have HIR := Lib.hid hir
            go_wp2_with (go_at_call 36; refine (isRest_yes _ _ _ HIR.out.1 HIR.out.2.1 HIR.out.2.2).mono ?_; rintro e w' ⟨rfl, rfl⟩)
            go_round
            case rel =>
              refine ⟨k + 1, by go_num, by omega, fun j hj hj' hjk => ?_⟩
              by_cases e1 : j = k
              · subst e1; rw [← HR.out.1, ← HR.out.2]; exact HIR.out
              · exact HK.out j hj hj' (by omega)
            case measure => simp [intOf]; omega
          · have HIR := Lib.hid hir
            clear hir
            have hf : Hid (t = false) := by
              show _ = _
              rw [Bool.eq_false_iff]
              intro htt
              have := (ht.out.2 htt).2.2 k hlt hlt2
              rw [← HR.out.1, ← HR.out.2] at this
              exact HIR.out this
            go_wp2_with (go_at_call 36; refine (isRest_no _ _ _ HIR.out).mono ?_; rintro e w' ⟨rfl, rfl⟩)
            go_ret
            exact ⟨ret_b hf.out.symm, rfl⟩
        · obtain rfl : k = Q.length := by omega
          have hf : Hid (t = true) := ht.out.1 ⟨HLE.out, h32, fun j hj hj' => HK.out j hj hj' hj⟩
          go_wp2_with (fail)
          go_ret
          exact ⟨ret_b hf.out.symm, rfl⟩
    · have hd : decide ((32 : Int) < (Q.length : Int)) = true := by simp; omega
      have hf : Hid (t = false) := by
        show _ = _
        rw [Bool.eq_false_iff]
        intro htt
        exact h32 (ht.out.2 htt).2.1
      go_enter Try.func26, Try.ntmps26
      go_wp2_with (fail)
      go_ret
      exact ⟨ret_b hf.out.symm, rfl⟩
  · have hl1 : ((R.length : Int) != (Q.length : Int)) = true := by simp; omega
    have hf : Hid (t = false) := by
      show _ = _
      rw [Bool.eq_false_iff]
      intro htt
      exact hlen (ht.out.2 htt).1
    clear hlen
    go_enter Try.func26, Try.ntmps26
    go_wp2_with (fail)
    go_ret
    exact ⟨ret_b hf.out.symm, rfl⟩

theorem gcd_is (a b g : Nat) (w : World) (ha2 : a ≤ 9223372036854775807) (hb2 : b ≤ 9223372036854775807) (hg : Hid (Nat.gcd a b = g)) :
    Calls Try.prog 28 #[.int .i64 a, .int .i64 b] w fun e w' => e = .returned (.int .i64 g) ∧ ∃ n, w' = w.drewN n := by
  refine (gcd_any a b w (by omega) (by omega) (by omega) (by omega)).mono fun e w' ⟨he, hn⟩ => ⟨?_, hn⟩
  rw [he, gcdI, Int.toNat_natCast, Int.toNat_natCast, hg.out]

set_option maxRecDepth 100000 in
set_option maxHeartbeats 1000000 in
theorem isMultipleSmall_is (Q : List Nat) (v : Value) (t : Bool) (w : World) (hr : Hid (Rd w v 1 Q.length (ints Q))) (hlen : Q.length ≤ 32) (hQ : Hid (∀ q ∈ Q, 1 ≤ q ∧ q ≤ 2147483647)) (ht : Hid (M.small 1 Q = t)) :
    Calls Try.prog 27 #[v] w fun x w' => x = .returned (.bool t) ∧ ∃ n, w' = w.drewN n := by
  obtain ⟨hfl, a, cap, rfl, hcap, hcell⟩ := hr.out
  have HC := Lib.hid hcell
  clear hcell hfl hr
  go_enter Try.func27, Try.ntmps27
  go_wp2_with (fail)
  go_loopw [3, 9] (fun al i wr => ∃ (k all n : Nat), i = .int .i64 k ∧ al = .int .i64 all ∧ k ≤ Q.length ∧ 1 ≤ all ∧ all ≤ 4611686018427387904 ∧ wr = w.drewN n ∧ Hid (M.small all (Q.drop k) = t)) (fun _ i _ => Q.length - (intOf i).toNat)
  case atStart => exact ⟨0, 1, 0, rfl, rfl, by omega, by omega, by omega, rfl, ht.out⟩
  case round =>
    obtain ⟨k, all, n, rfl, rfl, hk, ha1, ha2, rfl, HS⟩ := hrel
    by_cases hlt : k < Q.length
    · rcases HC.out with h0 | ⟨b, rfl, hb, hcell⟩
      · omega
      have c0 : w.cell? ⟨b, k, none⟩ = some (.int .i64 (Q[k] : Int)) := hcell _ _ (ints_get Q k hlt)
      clear hcell
      have hq := hQ.out Q[k] (List.getElem_mem hlt)
      have hd : Q.drop k = Q[k] :: Q.drop (k + 1) := List.drop_eq_getElem_cons hlt
      have HS' := HS.out
      rw [hd] at HS'
      clear hd HS
      obtain ⟨m, hm⟩ : ∃ m, m = Q[k] := ⟨_, rfl⟩
      rw [← hm] at c0 hq HS'
      clear hm
      obtain ⟨g1, e1, e2, _, hN1, _, hNm⟩ := M.gcd_parts (all := all) (m := m) ha1 hq.1
      have hsm := M.small_le (all := all) (m := m) (l := Q.drop (k + 1)) ha1 hq.1
      rw [M.small] at HS'
      obtain ⟨g, hg⟩ : ∃ g, Nat.gcd all m = g := ⟨_, rfl⟩
      rw [M.small, hg] at hsm
      rw [hg] at HS' g1 hN1 hNm
      have HG := Lib.hid hg
      clear e1 e2 hg
      obtain ⟨N, hN⟩ : ∃ N, N = m / g := ⟨_, rfl⟩
      rw [← hN] at HS' hN1 hNm hsm
      have hNc : (m : Int) / (g : Int) = (N : Int) := by rw [hN]; rfl
      clear hN
      have hz : ¬ N = 0 := by omega
      have hz2 : ¬ g = 0 := by omega
      by_cases hbig : M.maxMul / N < all
      · have hdc : decide ((4611686018427387904 : Int) / (N : Int) < (all : Int)) = true := by
          rw [decide_eq_true_eq]
          have : ((4611686018427387904 : Int) / (N : Int)) = ((M.maxMul / N : Nat) : Int) := rfl
          omega
        rw [if_pos hbig] at HS'
        have HT := Lib.hid HS'
        clear HS' hbig hsm
        go_wp2_with (go_at_call 28; refine (gcd_is all m g _ (by omega) (by omega) HG).mono ?_; rintro e w' ⟨rfl, n2, rfl⟩)
        go_ret
        exact ⟨ret_b HT.out, _, rfl⟩
      · have hdc : decide ((4611686018427387904 : Int) / (N : Int) < (all : Int)) = false := by
          rw [decide_eq_false_iff_not]
          have : ((4611686018427387904 : Int) / (N : Int)) = ((M.maxMul / N : Nat) : Int) := rfl
          omega
        rw [if_neg hbig] at HS'
        have HT := Lib.hid HS'
        have hle : all * N ≤ 4611686018427387904 := by
          have h2 : all ≤ M.maxMul / N := by omega
          exact (Nat.le_div_iff_mul_le hN1).1 h2
        have hmul : 0 ≤ (all : Int) * (N : Int) ∧ (all : Int) * (N : Int) ≤ 4611686018427387904 := by
          rw [show (all : Int) * (N : Int) = ((all * N : Nat) : Int) by simp]; omega
        have hpos : 1 ≤ all * N := Nat.mul_pos ha1 hN1
        clear HS' hbig hsm
        go_wp2_with (go_at_call 28; refine (gcd_is all m g _ (by omega) (by omega) HG).mono ?_; rintro e w' ⟨rfl, n2, rfl⟩)
        go_roundw
        case rel => exact ⟨k + 1, all * N, _, by go_num, by simp, by omega, hpos, hle, rfl, HT.out⟩
        case measure => simp [intOf]; omega
    · obtain rfl : k = Q.length := by omega
      have HT : Hid (t = true) := by have := HS.out; rw [List.drop_length, M.small] at this; exact this.symm
      go_wp2_with (fail)
      go_ret
      exact ⟨ret_b HT.out.symm, _, rfl⟩

theorem tmod_neg (D : Int) (N : Nat) (hN : 1 ≤ N) (hD : D < 0) : D.tmod N ≤ 0 ∧ -(N : Int) < D.tmod N ∧ (D.tmod N < 0 → D.tmod N + N = D % N) ∧ (D.tmod N = 0 → D % N = 0) := by
  obtain ⟨z, rfl⟩ : ∃ z, D = -z := ⟨-D, by omega⟩
  rw [Int.neg_tmod, Int.tmod_eq_emod_of_nonneg (by omega)]
  have h0 := Int.emod_nonneg z (show (N : Int) ≠ 0 by omega)
  have h1 := Int.emod_lt_of_pos z (show (0 : Int) < N by omega)
  have h2 : (-z) % (N : Int) = (-(z % N)) % N := by rw [Int.neg_emod_eq_sub_emod, Int.neg_emod_eq_sub_emod (a := z % N), Int.sub_emod, Int.sub_emod (N : Int) (z % N), Int.emod_emod]
  refine ⟨by omega, by omega, fun h => ?_, fun h => ?_⟩
  · have h3 : (-(z % (N : Int))) % (N : Int) = (-(z % (N : Int)) + N) % (N : Int) := (Int.add_emod_right ..).symm
    rw [h2, h3, Int.emod_eq_of_lt (a := -(z % (N : Int)) + N) (by omega) (by omega)]
  · rw [h2, show -(z % (N : Int)) = 0 by omega, Int.zero_emod]

set_option maxRecDepth 100000 in
set_option maxHeartbeats 1000000 in
theorem timesToClose_is (D : Int) (A N T : Nat) (w : World) (hD1 : -4611686018427387904 ≤ D) (hD2 : D ≤ 4611686018427387904) (hA : A ≤ 4611686018427387904) (hN1 : 1 ≤ N) (hN2 : N ≤ 2147483647) (hTN : T < N) (hc : Hid (Nat.Coprime A N)) (hT : Hid ((N : Int) ∣ (A : Int) * T - D)) :
    Calls Try.prog 29 #[.int .i64 D, .int .i64 A, .int .i64 N] w fun x w' => x = .returned (.int .i64 T) ∧ w = w' := by
  obtain ⟨i, hi0, hi1, hi⟩ := M.exists_step_inv hN1 hc.out
  have hcl := M.closes (D := D) hi
  have hm0 := Int.emod_nonneg D (show (N : Int) ≠ 0 by omega)
  have hm1 := Int.emod_lt_of_pos D (show (0 : Int) < N by omega)
  have hv := emod_bd (D % N * i) N (by omega)
  have HV := Lib.hid (M.T_value hc.out hTN hv.1 hv.2 hT.out hcl)
  have HI := Lib.hid hi
  have hb := M.mul_bd (D % N) i N hm0 hm1 hi0 hi1 (by omega)
  have ha := emod_bd A N (by omega)
  clear hcl hi hv
  by_cases hD : 0 ≤ D
  · go_enter Try.func29, Try.ntmps29
    go_wp2_with (go_at_call 45; refine (invert_any _ _ i _ ha.1 ha.2 (by omega) hi0 hi1 HI).mono ?_; rintro e w' ⟨rfl, rfl⟩)
    go_ret
    exact ⟨ret_i HV.out, rfl⟩
  · obtain ⟨t1, t2, t3, t4⟩ := tmod_neg D N hN1 (by omega)
    obtain ⟨t, ht⟩ : ∃ t, D.tmod N = t := ⟨_, rfl⟩
    rw [ht] at t1 t2 t3 t4
    by_cases htn : t < 0
    · have h5 := Lib.hid (t3 htn)
      rw [← h5.out] at hb
      have HV2 : Hid ((t + N) * i % N = T) := by have := HV.out; rw [← h5.out] at this; exact this
      clear t3 t4 h5
      go_enter Try.func29, Try.ntmps29
      go_wp2_with (go_at_call 45; refine (invert_any _ _ i _ ha.1 ha.2 (by omega) hi0 hi1 HI).mono ?_; rintro e w' ⟨rfl, rfl⟩)
      go_ret
      exact ⟨ret_i HV2.out, rfl⟩
    · obtain rfl : t = 0 := by omega
      have h5 := Lib.hid (t4 rfl)
      have HV2 : Hid ((0 : Int) = T) := by have := HV.out; rw [h5.out] at this; simp at this; exact this
      clear t3 t4 h5
      go_enter Try.func29, Try.ntmps29
      go_wp2_with (go_at_call 45; refine (invert_any _ _ i _ ha.1 ha.2 (by omega) hi0 hi1 HI).mono ?_; rintro e w' ⟨rfl, rfl⟩)
      go_ret
      exact ⟨ret_i HV2.out, rfl⟩

/-! ### Common -/
def firsts (L : List (Nat × Nat)) : List Nat := L.map (·.1)
def seconds (L : List (Nat × Nat)) : List Nat := L.map (·.2)

/-- Rests and moduli such as Common takes. -/
def Valid (L : List (Nat × Nat)) : Prop := L.length ≤ 32 ∧ ∀ x ∈ L, x.1 < x.2 ∧ x.2 ≤ 2147483647

def CommonPost (o : Option (Nat × Nat)) (w : World) (e : Ending) (w' : World) : Prop :=
  (match o with
    | some (x, all) => e = .returned (.tuple #[.int .i64 x, .int .i64 all, .int .i64 0])
    | none => e = .returned (.tuple #[.int .i64 0, .int .i64 0, .int .i64 6])) ∧ ∃ n, w' = w.drewN n

theorem quot_exact {D G : Int} (h : G ∣ D) : D.tdiv G = D / G := Int.tdiv_eq_ediv_of_dvd h

set_option maxRecDepth 100000 in
set_option maxHeartbeats 2000000 in
theorem Common_ok (L : List (Nat × Nat)) (vr vq : Value) (o : Option (Nat × Nat)) (w : World) (hr : Hid (Rd w vr 1 L.length (ints (firsts L)))) (hq : Hid (Rd w vq 1 L.length (ints (seconds L)))) (hL : Hid (Valid L)) (hs : Hid (M.small 1 (seconds L) = true)) (ho : Hid (M.crt 0 1 L = o)) :
    Calls Try.prog 16 #[vr, vq] w (CommonPost o w) := by
  have hlen := hL.out.1
  have hAR : Hid (AreRests ((firsts L).map Int.ofNat) ((seconds L).map Int.ofNat)) := by
    refine ⟨by simp [firsts, seconds], by simpa [seconds] using hlen, fun j hj hj' => ?_⟩
    have hjl : j < L.length := by simpa [seconds] using hj
    have := hL.out.2 L[j] (List.getElem_mem hjl)
    simp only [firsts, seconds, List.getElem_map, IsRest]
    exact ⟨Int.natCast_nonneg _, by show ((L[j].1 : Nat) : Int) < ((L[j].2 : Nat) : Int); omega, by show ((L[j].2 : Nat) : Int) ≤ _; omega⟩
  have hints : ∀ Q : List Nat, intsZ (Q.map Int.ofNat) = ints Q := fun Q => by simp [intsZ, ints]
  have hr' : Hid (Rd w vr 1 ((firsts L).map Int.ofNat).length (intsZ ((firsts L).map Int.ofNat))) := by show Rd _ _ _ _ _; rw [hints]; simpa [firsts] using hr.out
  have hq' : Hid (Rd w vq 1 ((seconds L).map Int.ofNat).length (intsZ ((seconds L).map Int.ofNat))) := by show Rd _ _ _ _ _; rw [hints]; simpa [seconds] using hq.out
  have hq'' : Hid (Rd w vq 1 (seconds L).length (ints (seconds L))) := by show Rd _ _ _ _ _; simpa [seconds] using hq.out
  have hQ : Hid (∀ q ∈ seconds L, 1 ≤ q ∧ q ≤ 2147483647) := by
    intro q hq
    obtain ⟨x, hx, rfl⟩ := List.mem_map.1 hq
    have := hL.out.2 x hx
    omega
  clear hints
  go_enter Try.func16, Try.ntmps16
  go_wp2_with (fail)
  refine (areRests_is _ _ vr vq true _ hr' hq' (by simp [seconds]; omega) ⟨fun _ => rfl, fun _ => hAR.out⟩).mono ?_
  rintro e w' ⟨rfl, rfl⟩
  go_wp2_with (fail)
  refine (isMultipleSmall_is (seconds L) vq true _ hq'' (by simpa [seconds] using hlen) hQ hs).mono ?_
  rintro e w' ⟨rfl, n0, rfl⟩
  obtain ⟨_, a, cap, rfl, hcap, hcell⟩ := hr.out
  obtain ⟨_, a2, cap2, rfl, hcap2, hcell2⟩ := hq.out
  have HC := Lib.hid hcell
  have HC2 := Lib.hid hcell2
  clear hcell hcell2 hr hq hr' hq' hq'' hAR
  go_wp2_with (fail)
  go_loopw [7, 8, 22] (fun xv al i wr => ∃ (k x all n : Nat), i = .int .i64 k ∧ xv = .int .i64 x ∧ al = .int .i64 all ∧ k ≤ L.length ∧ x < all ∧ all ≤ 4611686018427387904 ∧ wr = w.drewN n ∧ Hid (M.small all (seconds (L.drop k)) = true) ∧ Hid (M.crt x all (L.drop k) = o)) (fun _ _ i _ => L.length - (intOf i).toNat)
  case atStart => exact ⟨0, 0, 1, n0, rfl, rfl, rfl, by omega, by omega, by omega, rfl, hs.out, ho.out⟩
  case round =>
    obtain ⟨k, x, all, n, rfl, rfl, rfl, hk, hxa, ha2, rfl, HS, HC'⟩ := hrel
    by_cases hlt : k < L.length
    · rcases HC.out with h0 | ⟨b, rfl, hb, hcell⟩
      · omega
      rcases HC2.out with h0 | ⟨b2, rfl, hb2, hcell2⟩
      · omega
      have c0 : w.cell? ⟨b, k, none⟩ = some (.int .i64 (L[k].1 : Int)) := hcell _ _ (by simp [ints, firsts, hlt])
      have c2 : w.cell? ⟨b2, k, none⟩ = some (.int .i64 (L[k].2 : Int)) := hcell2 _ _ (by simp [ints, seconds, hlt])
      clear hcell hcell2
      have hv := hL.out.2 L[k] (List.getElem_mem hlt)
      have hd : L.drop k = L[k] :: L.drop (k + 1) := List.drop_eq_getElem_cons hlt
      have HS' := HS.out
      have HK' := HC'.out
      rw [hd] at HS' HK'
      clear hd HS HC'
      obtain ⟨r, hrr⟩ : ∃ r, r = L[k].1 := ⟨_, rfl⟩
      obtain ⟨m, hm⟩ : ∃ m, m = L[k].2 := ⟨_, rfl⟩
      rw [show seconds (L[k] :: L.drop (k + 1)) = m :: seconds (L.drop (k + 1)) by rw [hm]; rfl] at HS'
      rw [show L[k] = (r, m) from Prod.ext hrr.symm hm.symm] at HK'
      rw [← hrr] at c0
      rw [← hm] at c2
      rw [← hrr, ← hm] at hv
      clear hrr hm
      obtain ⟨g1, e1, e2, hcop, hN1, hA1, hNm⟩ := M.gcd_parts (all := all) (m := m) (by omega) (by omega)
      obtain ⟨hmx, hsm, _⟩ := M.small_le (by omega) (by omega) HS'
      obtain ⟨T, hT⟩ := M.exists_T (x := x) (all := all) (r := r) (m := m) (by omega) (by omega)
      by_cases hdv : ((Nat.gcd all m : Nat) : Int) ∣ (r : Int) - x
      · have hst := M.stepT_some (by omega) (by omega) hv.1 hdv hT
        have hlt2 := M.step_lt hxa hT.lt
        rw [M.crt, hst] at HK'
        have hTl := hT.lt
        have hTd := hT.dvd
        clear hst hT HS' e1 e2
        have hAle : all / Nat.gcd all m ≤ all := Nat.div_le_self _ _
        obtain ⟨g, hg⟩ : ∃ g, Nat.gcd all m = g := ⟨_, rfl⟩
        obtain ⟨N, hN⟩ : ∃ N, m / Nat.gcd all m = N := ⟨_, rfl⟩
        obtain ⟨A, hA⟩ : ∃ A, all / Nat.gcd all m = A := ⟨_, rfl⟩
        rw [hN] at hcop hN1 hNm hmx hsm hTl hTd hlt2
        rw [hA] at hcop hA1 hTd hAle
        rw [hg] at hdv g1 hTd
        have HK2 : Hid (M.crt (x + all * T) (all * N) (L.drop (k + 1)) = o) := by rw [← hN]; exact HK'
        have HG := Lib.hid hg
        have hNc : (m : Int) / (g : Int) = (N : Int) := by rw [← hN, hg]; rfl
        have hAc : (all : Int) / (g : Int) = (A : Int) := by rw [← hA, hg]; rfl
        have hz2 : ¬ g = 0 := by omega
        have hz3 : ((g : Int) == 0) = false := by simp; omega
        have htm : ((r : Int) - x).tmod g = 0 := Int.tmod_eq_zero_of_dvd hdv
        obtain ⟨D, hD⟩ : ∃ D, ((r : Int) - x) / (g : Int) = D := ⟨_, rfl⟩
        have htd : ((r : Int) - x).tdiv g = D := by rw [quot_exact hdv, hD]
        have hDb : -4611686018427387904 ≤ D ∧ D ≤ 4611686018427387904 := by
          obtain ⟨c, hc⟩ := hdv
          have : D = c := by rw [← hD, hc, Int.mul_ediv_cancel_left _ (by omega)]
          subst this
          have h1 : -4611686018427387904 ≤ (g : Int) * D ∧ (g : Int) * D ≤ 4611686018427387904 := by omega
          refine ⟨?_, ?_⟩
          · refine Classical.byContradiction fun hc2 => ?_
            have : (g : Int) * D ≤ 1 * D := Int.mul_le_mul_of_nonpos_right (by omega) (by omega)
            omega
          · refine Classical.byContradiction fun hc2 => ?_
            have : 1 * D ≤ (g : Int) * D := Int.mul_le_mul_of_nonneg_right (by omega) (by omega)
            omega
        rw [hD] at hTd
        have HTD := Lib.hid hTd
        have HCOP := Lib.hid hcop
        have HSM := Lib.hid hsm
        have hwrap : IntKind.i64.wrap (((r : Int) - x).tdiv g) = D := by rw [htd]; exact IntWalk.i64_in _ (by omega)
        clear HK' hg hN hA hTd hcop hsm hD hdv
        have haT : all * T ≤ all * N := Nat.mul_le_mul_left _ (by omega)
        simp only [M.maxMul] at hmx
        have hm1 : 0 ≤ (all : Int) * (T : Int) ∧ (all : Int) * (T : Int) ≤ 4611686018427387904 := by
          rw [show (all : Int) * (T : Int) = ((all * T : Nat) : Int) by simp]; omega
        have hm2 : 0 ≤ (all : Int) * (N : Int) ∧ (all : Int) * (N : Int) ≤ 4611686018427387904 := by
          rw [show (all : Int) * (N : Int) = ((all * N : Nat) : Int) by simp]; omega
        have hwm1 : IntKind.i64.wrap ((all : Int) * (T : Int)) = (all : Int) * (T : Int) := IntWalk.i64_in _ (by omega)
        have hwm2 : IntKind.i64.wrap ((x : Int) + (all : Int) * (T : Int)) = (x : Int) + (all : Int) * (T : Int) := IntWalk.i64_in _ (by omega)
        go_wp2_with (go_at_call 28; refine (gcd_is all m g _ (by omega) (by omega) HG).mono ?_; rintro e w' ⟨rfl, n2, rfl⟩)
        go_quiet ((go_at_call 29; exact still_more _ _ fun W => timesToClose_is D A N T W hDb.1 hDb.2 (by omega) (by omega) (by omega) hTl HCOP HTD))
        go_wp2_with (fail)
        go_roundw
        case rel => exact ⟨k + 1, x + all * T, all * N, _, by go_num, by simp, by simp, by omega, hlt2, hmx, rfl, HSM.out, HK2.out⟩
        case measure => simp [intOf]; omega
      · have hst := M.stepT_none hdv
        rw [M.crt, hst] at HK'
        have HO : Hid (o = none) := HK'.symm
        obtain ⟨g, hg⟩ : ∃ g, Nat.gcd all m = g := ⟨_, rfl⟩
        rw [hg] at hdv g1
        have HG := Lib.hid hg
        have hz2 : ¬ g = 0 := by omega
        have htm : ((((r : Int) - x).tmod g) != 0) = true := by
          rw [bne_iff_ne]
          exact fun h => hdv (Int.dvd_of_tmod_eq_zero h)
        clear hst HK' HS' hg hdv hT e1 e2 hcop hsm hmx
        go_wp2_with (go_at_call 28; refine (gcd_is all m g _ (by omega) (by omega) HG).mono ?_; rintro e w' ⟨rfl, n2, rfl⟩)
        go_ret3
        rw [HO.out]
        exact ⟨rfl, _, rfl⟩
    · obtain rfl : k = L.length := by omega
      have HO : Hid (o = some (x, all)) := by have := HC'.out; rw [List.drop_length, M.crt] at this; exact this.symm
      go_wp2_with (fail)
      go_ret3
      rw [HO.out]
      exact ⟨rfl, _, rfl⟩

end Go.Proofs.Ytldfbadcigdbkaa
