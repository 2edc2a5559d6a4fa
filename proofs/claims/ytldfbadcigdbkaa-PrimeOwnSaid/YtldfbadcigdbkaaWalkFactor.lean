/- The walks over prime.isPrime, Factor, and the reference's Factor. -/
import Derived.Test.YtldfbadcigdbkaaWalkOrder
namespace Go.Proofs.Ytldfbadcigdbkaa
open Go.RowKit

theorem fac_of_prime {n : Nat} {L : List (Nat × Nat)} (hp : M.Pr n) (hL : M.IsFac n L) : L = [(n, 1)] :=
  hL.unique ⟨⟨by have := hp.1; show 1 < n; omega, hp, Nat.le_refl _, trivial⟩, by simp [M.prodP]⟩

theorem isPrime_at (n : Int) (p : Int) (w : World) (h2 : 2 ≤ n) (hm : n ≤ 2147483647) (t : Bool) (ht : (p == n) = t) (hL : Hid (∃ L e t, M.IsFac n.toNat L ∧ L = (p.toNat, e) :: t)) (hp : 0 ≤ p) :
    Calls Try.prog 37 #[.int .i64 n] w fun x w' => x = .returned (.bool t) ∧ Below w.heap.size w w' := by
  obtain ⟨L, e, tl, hL1, hL2⟩ := hL.out
  have HL := Lib.hid hL1
  have hlen : L.length = tl.length + 1 := by rw [hL2]; rfl
  have hfl : (flat L)[0]? = some (.int .i64 p) := by rw [hL2]; simp [flat]; omega
  have HFL := Lib.hid (And.intro hfl hlen)
  clear hL1 hL2 hL hfl hlen
  have HT := Lib.hid ht
  clear ht
  go_enter Try.func37, Try.ntmps37
  go_wp2_with (go_at_call 17; refine (isNumber_yes _ _ (by omega) (by omega)).mono ?_; rintro e w' ⟨rfl, rfl⟩)
  refine (factors_any n L _ (by omega) (by omega) HL).mono ?_
  rintro x w1 ⟨⟨vf, rfl, hown⟩, hB1⟩
  have hrd := Rd.of_own hown
  clear hown
  obtain ⟨hfl, a, cap, rfl, hcap, hcell⟩ := hrd
  have HB1 := Lib.hid hB1
  clear hB1
  rcases hcell with h0 | ⟨b, rfl, hb, hcell⟩
  · have := HFL.out.2; omega
  have c0 := hcell _ _ HFL.out.1
  have hl1 : 0 < L.length := by have := HFL.out.2; omega
  clear hcell hfl
  go_wp2_with (fail)
  go_ret
  exact ⟨ret_b HT.out, HB1.out⟩

theorem isPrime_yes (n : Int) (w : World) (h : Hid (PrI n)) : Calls Try.prog 37 #[.int .i64 n] w fun x w' => x = .returned (.bool true) ∧ Below w.heap.size w w' := by
  obtain ⟨h2, hm, hp⟩ := h.out
  obtain ⟨L, hL⟩ := M.exists_fac n.toNat (by omega)
  exact isPrime_at n n w h2 hm true (by simp) ⟨L, 1, [], hL, fac_of_prime hp hL⟩ (by omega)

theorem isPrime_no (n : Int) (w : World) (h : Hid (¬ PrI n)) : Calls Try.prog 37 #[.int .i64 n] w fun x w' => x = .returned (.bool false) ∧ Below w.heap.size w w' := by
  by_cases hr : n ≤ 1
  · go_enter Try.func37, Try.ntmps37
    have hd : decide (1 < n) = false := by simpa using hr
    go_wp2_with (fail)
    go_ret
    exact ⟨rfl, Below.refl _ _⟩
  by_cases hm : n ≤ 2147483647
  · obtain ⟨L, hL⟩ := M.exists_fac n.toNat (by omega)
    match L, hL with
    | [], hL => exfalso; have := hL.2; simp [M.prodP] at this; omega
    | x :: L, hL =>
      refine isPrime_at n (x.1 : Int) w (by omega) hm false ?_ ⟨x :: L, x.2, L, hL, by simp⟩ (by omega)
      rw [beq_eq_false_iff_ne]
      intro e
      exact h.out ⟨by omega, hm, by rw [← e, Int.toNat_natCast]; exact hL.1.2.1⟩
  · have h1 : 1 < n := by omega
    have hm' : n < 1 ∨ 2147483647 < n := by omega
    clear hr h
    go_enter Try.func37, Try.ntmps37
    go_wp2_with (go_at_call 17; refine (isNumber_no _ _ hm').mono ?_; rintro e w' ⟨rfl, rfl⟩)
    go_ret
    exact ⟨rfl, Below.refl _ _⟩

/-! ### Factor -/
theorem Factor_yes (n : Int) (L : List (Nat × Nat)) (w : World) (hn : 1 ≤ n) (hn2 : n ≤ 2147483647) (hL : Hid (M.IsFac n.toNat L)) :
    Calls Try.prog 14 #[.int .i64 n] w fun x w' => (∃ v, x = .returned (.tuple #[v, .int .i64 0]) ∧ w'.ownsRow w.heap.size 41 2 v L.length (flat L)) ∧ Below w.heap.size w w' := by
  go_enter Try.func14, Try.ntmps14
  go_wp2_with (first
    | (go_at_call 17; refine (isNumber_yes _ _ (by omega) (by omega)).mono ?_; rintro e w' ⟨rfl, rfl⟩)
    | (go_at_call 18; refine (factors_any n L _ (by omega) (by omega) hL).mono ?_; rintro x w1 ⟨⟨vf, rfl, hown⟩, hB1⟩; have HB := Lib.hid (And.intro hown hB1); clear hown hB1))
  go_ret2
  exact ⟨⟨_, rfl, HB.out.1⟩, HB.out.2⟩

theorem Factor_no (n : Int) (w : World) (hn : n < 1 ∨ 2147483647 < n) :
    Calls Try.prog 14 #[.int .i64 n] w fun x w' => x = .returned (.tuple #[.slice none 0 0, .int .i64 2]) ∧ w = w' := by
  go_enter Try.func14, Try.ntmps14
  go_wp2_with (go_at_call 17; refine (isNumber_no _ _ hn).mono ?_; rintro e w' ⟨rfl, rfl⟩)
  go_ret2
  exact ⟨rfl, rfl⟩

/-! ### The reference's Factor -/
theorem least_at {L : List (Nat × Nat)} {lo k : Nat} (h : M.FacFrom lo L) (hk : k < L.length) : Least (M.prodP (L.drop k) : Int) (L[k].1 : Int) := by
  have hd : L.drop k = L[k] :: L.drop (k + 1) := List.drop_eq_getElem_cons hk
  have hf := h.drop k
  rw [hd] at hf ⊢
  refine ⟨by have := hf.2.1.1; omega, by exact_mod_cast M.dvd_prodP (List.mem_cons_self ..) hf.2.2.1, fun j hj hjd => ?_⟩
  obtain ⟨J, rfl⟩ := Int.eq_ofNat_of_zero_le (show 0 ≤ j by omega)
  have := hf.head_le (k := J) (by omega) (by exact_mod_cast hjd)
  omega

theorem prod_at {L : List (Nat × Nat)} {lo k : Nat} (h : M.FacFrom lo L) (hk : k < L.length) :
    M.prodP (L.drop k) = L[k].1 ^ L[k].2 * M.prodP (L.drop (k + 1)) ∧ ¬ L[k].1 ∣ M.prodP (L.drop (k + 1)) ∧ 1 ≤ M.prodP (L.drop (k + 1)) ∧ 2 ≤ L[k].1 ∧ 2 ≤ M.prodP (L.drop k) := by
  have hd : L.drop k = L[k] :: L.drop (k + 1) := List.drop_eq_getElem_cons hk
  have hf := h.drop k
  rw [hd] at hf
  refine ⟨by rw [hd]; rfl, hf.2.2.2.not_dvd hf.2.1, hf.2.2.2.pos, hf.2.1.1, ?_⟩
  have h1 := M.dvd_prodP (List.mem_cons_self (a := L[k]) (l := L.drop (k + 1))) hf.2.2.1
  have := Nat.le_of_dvd hf.pos h1
  rw [hd]
  have := hf.2.1.1
  omega

theorem flat_take (L : List (Nat × Nat)) (k : Nat) (h : k < L.length) : flat (L.take (k + 1)) = flat (L.take k) ++ [.int .i64 (L[k].1 : Int), .int .i64 (L[k].2 : Int)] := by
  rw [List.take_succ_eq_append_getElem h, flat_append]; simp [flat]

set_option maxRecDepth 100000 in
set_option maxHeartbeats 1000000 in
theorem refFactor_any (n : Int) (L : List (Nat × Nat)) (w : World) (hn : 1 ≤ n) (hn2 : n ≤ 2147483647) (hL : Hid (M.IsFac n.toNat L)) :
    Calls Try.prog 15 #[.int .i64 n] w fun x w' => (∃ v, x = .returned v ∧ w'.ownsRow w.heap.size 41 2 v L.length (flat L)) ∧ Below w.heap.size w w' := by
  obtain ⟨i0, hi, hz0, hz1, hz2⟩ := info_parts Try.infoP
  have hlen : L.length ≤ 30 := hL.out.1.length_le (by rw [hL.out.2]; omega)
  have hple : M.prodP L ≤ 2147483647 := by rw [hL.out.2]; omega
  have hst : (n : Int) = (M.prodP (L.drop 0) : Int) := by rw [List.drop_zero, hL.out.2]; omega
  have HST := Lib.hid hst
  clear hst
  go_enter Try.func15, Try.ntmps15
  go_wp2_with (fail)
  go_loopw [0, 3] (fun x v wr => ∃ (k : Nat) (R : Int), x = .int .i64 R ∧ k ≤ L.length ∧ 1 ≤ R ∧ R ≤ 2147483647 ∧ Hid (R = (M.prodP (L.drop k) : Int)) ∧ wr.ownsRow w.heap.size 41 2 v k (flat (L.take k)) ∧ Below w.heap.size w wr) (fun x _ _ => (intOf x).toNat)
  case atStart => exact ⟨0, n, rfl, by omega, hn, hn2, HST.out, by simpa [flat] using World.ownsRow_nil _ _ _ _, Below.refl _ _⟩
  case round =>
    obtain ⟨k, R, rfl, hk, hR0, hR1, HR, hown, hB⟩ := hrel
    have hBs := hB.size
    by_cases hlt : k < L.length
    · obtain ⟨hp1, hp2, hp3, hq2, hpp⟩ := prod_at hL.out.1 hlt
      have HP := Lib.hid (And.intro hp1 (And.intro hp2 hp3))
      have hleast : Hid (Least R (L[k].1 : Int)) := by have := least_at hL.out.1 hlt; rw [← HR.out] at this; exact this
      have hRR := HR.out
      have hR2 : 2 ≤ R := by omega
      have hqR : L[k].1 ≤ 2147483647 := by have := hleast.out.le (by omega); omega
      have hple2 := hL.out.1.prod_drop_le (k + 1)
      have hnext : 1 ≤ (M.prodP (L.drop (k + 1)) : Int) ∧ (M.prodP (L.drop (k + 1)) : Int) ≤ 2147483647 := by omega
      have hm : M.prodP (L.drop (k + 1)) < R.toNat := by
        have h1 : L[k].1 ^ 1 ≤ L[k].1 ^ L[k].2 := Nat.pow_le_pow_right (by omega) (hL.out.1.gt _ (List.getElem_mem hlt)).2.2
        rw [Nat.pow_one] at h1
        have h2 : 2 * M.prodP (L.drop (k + 1)) ≤ L[k].1 ^ L[k].2 * M.prodP (L.drop (k + 1)) := Nat.mul_le_mul_right _ (by omega)
        omega
      have HM := Lib.hid hm
      have hexp : L[k].2 ≤ 30 := by
        have h1 : 2 ^ L[k].2 ≤ L[k].1 ^ L[k].2 := Nat.pow_le_pow_left hq2 _
        have h2 : L[k].1 ^ L[k].2 * 1 ≤ L[k].1 ^ L[k].2 * M.prodP (L.drop (k + 1)) := Nat.mul_le_mul_left _ hp3
        exact M.lt_of_two_pow (n := M.prodP (L.drop k)) (by omega) (by omega)
      clear hp1 hp2 hpp hRR hm hp3 hple2
      obtain ⟨q, hq⟩ : ∃ q, q = L[k].1 := ⟨_, rfl⟩
      obtain ⟨E, hE⟩ : ∃ E, E = L[k].2 := ⟨_, rfl⟩
      obtain ⟨r, hr⟩ : ∃ r, r = M.prodP (L.drop (k + 1)) := ⟨_, rfl⟩
      rw [← hq, ← hE, ← hr] at HP
      rw [← hq] at hleast hq2 hqR
      rw [← hE] at hexp
      rw [← hr] at hnext HM
      have HQ := Lib.hid (And.intro hq (And.intro hE hr))
      clear hq hE hr
      have hRv : Hid (R.toNat = q ^ E * r) := by show _ = _; rw [← HP.out.1, HR.out]; exact Int.toNat_natCast _
      go_wp2_with (go_at_call 24; refine (Divisor_any _ _ _ (by omega) (by omega) hleast).mono ?_; rintro e w' ⟨rfl, rfl⟩)
      go_loop [0, 5] (fun x ex => ∃ (j : Nat) (R : Int), x = .int .i64 R ∧ ex = .int .i64 j ∧ j ≤ E ∧ 1 ≤ R ∧ R ≤ 2147483647 ∧ Hid (R.toNat = q ^ (E - j) * r)) (fun _ ex => E - (intOf ex).toNat)
      case atStart => exact ⟨0, R, rfl, rfl, by omega, by omega, by omega, hRv.out⟩
      case round =>
        obtain ⟨j, R', rfl, rfl, hj, hR0', hR1', HR'⟩ := hrel
        by_cases hjE : j < E
        · have hdiv := Lib.hid (take_div R' q E r j hR0' hR1' (by omega) hjE (by rw [Int.toNat_natCast]; exact HR'.out))
          have ht : ((R' % (q : Int)) == 0) = true := by simpa using hdiv.out.1
          have hb := hdiv.out.2.1
          go_wp2_with (fail)
          go_round
          case rel => exact ⟨j + 1, R' / q, rfl, by go_num, by omega, hb.1, hb.2, by have := hdiv.out.2.2; rw [Int.toNat_natCast] at this; rw [show E - (j + 1) = E - j - 1 by omega]; exact this⟩
          case measure => simp [intOf]; omega
        · obtain rfl : j = E := by omega
          have hRr : R' = r := by have := HR'.out; simp at this; omega
          have HRr := Lib.hid hRr
          have ht : ((R' % (q : Int)) == 0) = false := by
            rw [beq_eq_false_iff_ne]
            intro h0
            apply HP.out.2.1
            have h1 := Int.dvd_of_emod_eq_zero h0
            rw [hRr] at h1
            exact_mod_cast h1
          clear hRr
          go_wp2_with (at_builtin; refine wpList_append_own _ rfl _ _ 35 rfl w.heap.size 41 i0 (.agg #[.int .i64 0, .int .i64 0]) 2 16 Try.underlying35 hi hz0 hz1 hz2 rfl (by decide) _ _ _ rfl (hown.alloc _) ⟨wr.heap.size, 0, none⟩ 1 1 [.int .i64 q, .int .i64 j] rfl rfl ?c1 ?c2 ?c3 ?c4 ?c5 ?_)
          case c2 => exact ⟨rfl, rfl⟩
          case c3 => unfold maxLen; omega
          case c4 => omega
          case c5 => omega
          intro v' w1 hown' hgrow _
          have HO := Lib.hid (And.intro hown' hgrow)
          clear hown' hgrow
          go_wp2_with (fail)
          go_roundw
          case rel =>
            refine ⟨k + 1, R', rfl, by omega, by omega, by omega, ?_, ?_, ?_⟩
            · show _ = _; rw [HRr.out, HQ.out.2.2]
            · rw [flat_take L k hlt, ← HQ.out.1, ← HQ.out.2.1]; exact HO.out.1
            · exact (hB.alloc (by omega) _).grown HO.out.2 (by simp; omega) (fun b hb => (hown.lt b hb).1)
          case measure => simp [intOf]; rw [HRr.out]; have := HM.out; omega
    · obtain rfl : k = L.length := by omega
      obtain rfl : R = 1 := by have := HR.out; simp [M.prodP] at this; omega
      go_wp2_with (fail)
      go_ret
      rw [List.take_length] at hown
      exact ⟨⟨_, rfl, hown⟩, hB⟩

end Go.Proofs.Ytldfbadcigdbkaa
