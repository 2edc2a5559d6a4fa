/- The walks over areFactors, isWitness, isEntry, isProof, isRight, Check. -/
import Derived.Test.YtldfbadcigdbkaaArgs
import Derived.Test.YtldfbadcigdbkaaPratt
import Derived.Maps.OwnSet
namespace Go.Proofs.Ytldfbadcigdbkaa
open Go.RowKit Go.Maps

/-- A map of ints to bools that tells the ints of S. -/
structure SetI {H : Type} (D : DataW H) (S : List Int) : Prop where
  map : IsMap D
  val : ∀ x : Int, D.atKey (.int .i64 x) (.lit (.bool false)) = .lit (.bool (decide (x ∈ S)))

theorem SetI.empty {H : Type} : SetI (.map [] : DataW H) [] := ⟨isMap_empty, fun x => by simp [DataW.atKey]⟩

theorem SetI.put {H : Type} {D : DataW H} {S : List Int} (h : SetI D S) (x : Int) : SetI (D.put (.int .i64 x) (.lit (.bool true))) (x :: S) := by
  have hk : WideAt.IsKeyLit (.int .i64 x) := by simp [WideAt.IsKeyLit]
  refine ⟨h.map.put _ _, fun y => ?_⟩
  by_cases hy : y = x
  · subst hy
    rw [atKey_put_same h.map hk]
    simp
  · rw [atKey_put_other (by simpa using hy), h.val]
    simp [hy]

theorem zero4 (w : World) : (zeroValue 4).run Try.prog w = .ok (.bool false) w := by kernel_rfl

theorem plain_bool_inv {H : Type} {v : Value} {z : DataW H × List MemPlace} (h : plainElem Try.prog 4 v = some z) : ∃ a, v = .bool a ∧ z = (.lit (.bool a), []) := by
  unfold plainElem at h
  rw [Try.underlying4] at h
  cases v <;> simp at h
  exact ⟨_, rfl, h.symm⟩

/-- Asking the map. -/
theorem look_set {H : Type} {w : World} {b n : Nat} {D : DataW H} {S : List Int} (h : w.ownsMap Try.prog 3 (plainElem Try.prog 4) b n D) (hS : SetI D S) (q : Int) (hq : (Lit.int .i64 q).wf = true) :
    (Instr.lookup 56 (.map (some b)) (.int .i64 q) false).run Try.prog w = .ok (.bool (decide (q ∈ S))) w := by
  obtain ⟨v, ps, hrun, hv⟩ := h.lookup (int_keyed Try.underlying3) Try.underlying56 (zero4 w) (plainElem_bool Try.underlying4 false) (keyOf_int_mk Try.underlying3 hq)
  obtain ⟨a, rfl, hz⟩ := plain_bool_inv hv
  rw [hrun]
  have h1 : D.atKey (.int .i64 q) (.lit (.bool false)) = .lit (.bool a) := congrArg Prod.fst hz
  rw [hS.val] at h1
  injection h1 with h1
  injection h1 with h1
  rw [h1]

theorem strips_step {q n : Int} (hq : 2 ≤ q) (hn : 1 ≤ n) : (n % q = 0 → 1 ≤ n / q ∧ n / q < n ∧ M.strips q (n / q) = M.strips q n) ∧ (n % q ≠ 0 → M.strips q n = n) := by
  obtain ⟨e, h1, h2, h3, h4⟩ := M.strips_spec hq hn
  obtain ⟨Q, rfl⟩ := Int.eq_ofNat_of_zero_le (show 0 ≤ q by omega)
  obtain ⟨N, rfl⟩ := Int.eq_ofNat_of_zero_le (show 0 ≤ n by omega)
  simp only [Int.toNat_natCast] at h1 h2
  constructor
  · intro h0
    have hd : Q ∣ N := by exact_mod_cast Int.dvd_of_emod_eq_zero h0
    have e1 : ((N : Int) / (Q : Int)) = ((N / Q : Nat) : Int) := rfl
    have hlt : N / Q < N := Nat.div_lt_self (by omega) (by omega)
    have hpos : 1 ≤ N / Q := Nat.div_pos (Nat.le_of_dvd (by omega) hd) (by omega)
    rw [e1]
    refine ⟨by omega, by omega, ?_⟩
    obtain ⟨e', g1, g2, g3, _⟩ := M.strips_spec (q := (Q : Int)) (n := ((N / Q : Nat) : Int)) hq (by omega)
    simp only [Int.toNat_natCast] at g1 g2
    have hN : N = Q ^ (e' + 1) * (M.strips Q ((N / Q : Nat) : Int)).toNat := by
      rw [Nat.pow_succ, Nat.mul_comm (Q ^ e'), Nat.mul_assoc, ← g1, Nat.mul_div_cancel' hd]
    have := (M.strip_unique (by omega) (hN.symm.trans h1) g2 h2).2
    omega
  · intro h0
    have hnd : ¬ Q ∣ N := fun hd => h0 (Int.emod_eq_zero_of_dvd (by exact_mod_cast hd))
    have hN : Q ^ 0 * N = Q ^ e * (M.strips Q (N : Int)).toNat := by rw [← h1]; simp
    have := (M.strip_unique (by omega) hN hnd h2).2
    omega

def FOk (F : List Int) : Prop := ∀ q ∈ F, (Lit.int .i64 q).wf = true

set_option maxRecDepth 100000 in
set_option maxHeartbeats 2000000 in
theorem areFactors_is {H : Type} (n : Int) (v : Value) (F S : List Int) (b m : Nat) (D : DataW H) (t : Bool) (w : World) (hn : 1 ≤ n) (hn2 : n ≤ 2147483647) (hr : Hid (Rd w v 1 F.length (intsZ F))) (hF : Hid (FOk F)) (hlen : F.length ≤ 1000000)
    (hown : Hid (w.ownsMap Try.prog 3 (plainElem Try.prog 4) b m D)) (hS : Hid (SetI D S)) (hS2 : Hid (∀ q ∈ S, 2 ≤ q ∧ q ≤ 2147483647)) (ht : Hid (M.areF S 1 n F = t)) :
    Calls Try.prog 67 #[.int .i64 n, v, .map (some b)] w fun x w' => x = .returned (.bool t) ∧ w = w' := by
  obtain ⟨_, a, cap, rfl, hcap, hcell⟩ := hr.out
  have HC := Lib.hid hcell
  clear hcell hr
  go_enter Try.func67, Try.ntmps67
  go_wp2_with (fail)
  go_loop [7, 8, 14] (fun l r i => ∃ (k : Nat) (last rest : Int), i = .int .i64 k ∧ l = .int .i64 last ∧ r = .int .i64 rest ∧ k ≤ F.length ∧ 1 ≤ rest ∧ rest ≤ 2147483647 ∧ Hid (M.areF S last rest (F.drop k) = t)) (fun _ _ i => F.length - (intOf i).toNat)
  case atStart => exact ⟨0, 1, n, rfl, rfl, rfl, by omega, hn, hn2, ht.out⟩
  case round =>
    obtain ⟨k, last, rest, rfl, rfl, rfl, hk, hr1, hr2, HA⟩ := hrel
    by_cases hlt : k < F.length
    · rcases HC.out with h0 | ⟨bl, rfl, hb, hcell⟩
      · omega
      have c0 : w.cell? ⟨bl, k, none⟩ = some (.int .i64 F[k]) := hcell _ _ (intsZ_get F k hlt)
      clear hcell
      have hd : F.drop k = F[k] :: F.drop (k + 1) := List.drop_eq_getElem_cons hlt
      have hA := HA.out
      rw [hd] at hA
      clear hd HA
      have hwf := hF.out F[k] (List.getElem_mem hlt)
      obtain ⟨q, hq⟩ : ∃ q, q = F[k] := ⟨_, rfl⟩
      rw [← hq] at c0 hA hwf
      clear hq
      have hb64 := bounds_i64 hwf
      rw [M.areF] at hA
      by_cases hle : q ≤ last
      · rw [if_pos (.inl hle)] at hA
        have HT := Lib.hid hA
        clear hA
        have hd1 : decide (q ≤ last) = true := by simpa using hle
        go_wp2_with (fail)
        go_ret
        exact ⟨ret_b HT.out, rfl⟩
      have hd1 : decide (q ≤ last) = false := by simpa using hle
      have hlook := look_set hown.out hS.out q hwf
      by_cases hqS : q ∈ S
      · have hd2 : decide (q ∈ S) = true := by simpa using hqS
        rw [hd2] at hlook
        obtain ⟨hq2, hq3⟩ := hS2.out q hqS
        have hz : ¬ q = 0 := by omega
        obtain ⟨st1, st2⟩ := strips_step hq2 hr1
        by_cases hm : rest % q = 0
        · rw [if_neg (by rintro (h | h | h); exact hle h; exact h hqS; exact h hm)] at hA
          have hm1 : ((rest % q : Int) != 0) = false := by simp [hm]
          obtain ⟨T, hT⟩ : ∃ T, T = M.strips q rest := ⟨_, rfl⟩
          obtain ⟨_, _, _, hT1, hT2⟩ := M.strips_spec hq2 hr1
          rw [← hT] at hA hT1 hT2
          have HT := Lib.hid hT
          have HA2 := Lib.hid hA
          clear hA hT st1 st2 hm hqS hd2
          go_wp2_with (fail)
          go_loop [8] (fun r => ∃ rest : Int, r = .int .i64 rest ∧ 1 ≤ rest ∧ rest ≤ 2147483647 ∧ Hid (T = M.strips q rest)) (fun r => (intOf r).toNat)
          case atStart => exact ⟨rest, rfl, hr1, hr2, HT.out⟩
          case round =>
            obtain ⟨x, rfl, hx1, hx2, HX⟩ := hrel
            obtain ⟨st1, st2⟩ := strips_step hq2 hx1
            by_cases hm : x % q = 0
            · have hm1 : ((x % q : Int) == 0) = true := by simp [hm]
              obtain ⟨s1, s2, s3⟩ := st1 hm
              have HS3 := Lib.hid s3
              clear hm st1 st2 s3
              go_wp2_with (fail)
              go_round
              case rel => exact ⟨x / q, rfl, s1, by omega, by show _ = _; rw [HX.out, HS3.out]⟩
              case measure => simp [intOf]; omega
            · have hm1 : ((x % q : Int) == 0) = false := by simp [hm]
              have hxT : Hid (x = T) := by show _ = _; rw [HX.out, st2 hm]
              clear hm st1 st2
              go_wp2_with (fail)
              go_round
              case rel => exact ⟨k + 1, q, x, by go_num, rfl, rfl, by omega, hx1, hx2, by rw [hxT.out]; exact HA2.out⟩
              case measure => simp [intOf]; omega
        · rw [if_pos (.inr (.inr hm))] at hA
          have hm1 : ((rest % q : Int) != 0) = true := by simp [hm]
          have HT := Lib.hid hA
          clear hA hm st1 st2
          go_wp2_with (fail)
          go_ret
          exact ⟨ret_b HT.out, rfl⟩
      · have hd2 : decide (q ∈ S) = false := by simpa using hqS
        rw [hd2] at hlook
        rw [if_pos (.inr (.inl hqS))] at hA
        have HT := Lib.hid hA
        clear hA hd2 hqS
        go_wp2_with (fail)
        go_ret
        exact ⟨ret_b HT.out, rfl⟩
    · obtain rfl : k = F.length := by omega
      have hA := HA.out
      rw [List.drop_length, M.areF] at hA
      have HT := Lib.hid hA
      clear hA
      go_wp2_with (fail)
      go_ret
      exact ⟨ret_b HT.out, rfl⟩

end Go.Proofs.Ytldfbadcigdbkaa
