/- The walks over prime.isPrime, Factor, and the reference's Factor. -/
import Derived.Test.YtdidicfmchaloaaWalkOrder
namespace Go.Proofs.Ytdidicfmchaloaa
open Go.RowKit

theorem fac_of_prime {n : Nat} {L : List (Nat × Nat)} (hp : M.Pr n) (hL : M.IsFac n L) : L = [(n, 1)] :=
  hL.unique ⟨⟨by have := hp.1; show 1 < n; omega, hp, Nat.le_refl _, trivial⟩, by simp [M.prodP]⟩

theorem isPrime_at (n : Int) (p : Int) (w : World) (h2 : 2 ≤ n) (hm : n ≤ 2147483647) (t : Bool) (ht : (p == n) = t) (hL : Hid (∃ L e t, M.IsFac n.toNat L ∧ L = (p.toNat, e) :: t)) (hp : 0 ≤ p) :
    Calls Try.prog 19 #[.int .i64 n] w fun x w' => x = .returned (.bool t) ∧ Below w.heap.size w w' := by
  obtain ⟨L, e, tl, hL1, hL2⟩ := hL.out
  have HL := Lib.hid hL1
  have hlen : L.length = tl.length + 1 := by rw [hL2]; rfl
  have hfl : (flat L)[0]? = some (.int .i64 p) := by rw [hL2]; simp [flat]; omega
  have HFL := Lib.hid (And.intro hfl hlen)
  clear hL1 hL2 hL hfl hlen
  have HT := Lib.hid ht
  clear ht
  go_enter Try.func19, Try.ntmps19
  go_wp2_with (go_at_call 9; refine (isNumber_yes _ _ (by omega) (by omega)).mono ?_; rintro e w' ⟨rfl, rfl⟩)
  refine (factors_any n L _ (by omega) (by omega) HL).mono ?_
  rintro x w1 ⟨⟨vf, rfl, hown⟩, hB1⟩
  have hrd := Rd.of_own hown
  clear hown
  obtain ⟨hfl, a, cap, rfl, hcap, hcell⟩ := hrd
  have HB1 := Lib.hid hB1
  clear hB1
  rcases hcell with h0 | ⟨b, rfl, hb, hcell⟩
  · have := HFL.out.2; omega
  have c0 := hcell _ _ HFL.out.1
  have hl1 : 0 < L.length := by have := HFL.out.2; omega
  clear hcell hfl
  go_wp2_with (fail)
  go_ret
  exact ⟨ret_b HT.out, HB1.out⟩

theorem isPrime_yes (n : Int) (w : World) (h : Hid (PrI n)) : Calls Try.prog 19 #[.int .i64 n] w fun x w' => x = .returned (.bool true) ∧ Below w.heap.size w w' := by
  obtain ⟨h2, hm, hp⟩ := h.out
  obtain ⟨L, hL⟩ := M.exists_fac n.toNat (by omega)
  exact isPrime_at n n w h2 hm true (by simp) ⟨L, 1, [], hL, fac_of_prime hp hL⟩ (by omega)

theorem isPrime_no (n : Int) (w : World) (h : Hid (¬ PrI n)) : Calls Try.prog 19 #[.int .i64 n] w fun x w' => x = .returned (.bool false) ∧ Below w.heap.size w w' := by
  by_cases hr : n ≤ 1
  · go_enter Try.func19, Try.ntmps19
    have hd : decide (1 < n) = false := by simpa using hr
    go_wp2_with (fail)
    go_ret
    exact ⟨rfl, Below.refl _ _⟩
  by_cases hm : n ≤ 2147483647
  · obtain ⟨L, hL⟩ := M.exists_fac n.toNat (by omega)
    match L, hL with
    | [], hL => exfalso; have := hL.2; simp [M.prodP] at this; omega
    | x :: L, hL =>
      refine isPrime_at n (x.1 : Int) w (by omega) hm false ?_ ⟨x :: L, x.2, L, hL, by simp⟩ (by omega)
      rw [beq_eq_false_iff_ne]
      intro e
      exact h.out ⟨by omega, hm, by rw [← e, Int.toNat_natCast]; exact hL.1.2.1⟩
  · have h1 : 1 < n := by omega
    have hm' : n < 1 ∨ 2147483647 < n := by omega
    clear hr h
    go_enter Try.func19, Try.ntmps19
    go_wp2_with (go_at_call 9; refine (isNumber_no _ _ hm').mono ?_; rintro e w' ⟨rfl, rfl⟩)
    go_ret
    exact ⟨rfl, Below.refl _ _⟩

/-! ### Factor -/
theorem Factor_yes (n : Int) (L : List (Nat × Nat)) (w : World) (hn : 1 ≤ n) (hn2 : n ≤ 2147483647) (hL : Hid (M.IsFac n.toNat L)) :
    Calls Try.prog 15 #[.int .i64 n] w fun x w' => (∃ v, x = .returned (.tuple #[v, .int .i64 0]) ∧ w'.ownsRow w.heap.size 45 2 v L.length (flat L)) ∧ Below w.heap.size w w' := by
  go_enter Try.func15, Try.ntmps15
  go_wp2_with (first
    | (go_at_call 9; refine (isNumber_yes _ _ (by omega) (by omega)).mono ?_; rintro e w' ⟨rfl, rfl⟩)
    | (go_at_call 29; refine (factors_any n L _ (by omega) (by omega) hL).mono ?_; rintro x w1 ⟨⟨vf, rfl, hown⟩, hB1⟩; have HB := Lib.hid (And.intro hown hB1); clear hown hB1))
  go_ret2
  exact ⟨⟨_, rfl, HB.out.1⟩, HB.out.2⟩

theorem Factor_no (n : Int) (w : World) (hn : n < 1 ∨ 2147483647 < n) :
    Calls Try.prog 15 #[.int .i64 n] w fun x w' => x = .returned (.tuple #[.slice none 0 0, .int .i64 2]) ∧ w = w' := by
  go_enter Try.func15, Try.ntmps15
  go_wp2_with (go_at_call 9; refine (isNumber_no _ _ hn).mono ?_; rintro e w' ⟨rfl, rfl⟩)
  go_ret2
  exact ⟨rfl, rfl⟩

/-! ### The reference's Factor -/
theorem least_at {L : List (Nat × Nat)} {lo k : Nat} (h : M.FacFrom lo L) (hk : k < L.length) : Least (M.prodP (L.drop k) : Int) (L[k].1 : Int) := by
  have hd : L.drop k = L[k] :: L.drop (k + 1) := List.drop_eq_getElem_cons hk
  have hf := h.drop k
  rw [hd] at hf ⊢
  refine ⟨by have := hf.2.1.1; omega, by exact_mod_cast M.dvd_prodP (List.mem_cons_self ..) hf.2.2.1, fun j hj hjd => ?_⟩
  obtain ⟨J, rfl⟩ := Int.eq_ofNat_of_zero_le (show 0 ≤ j by omega)
  have := hf.head_le (k := J) (by omega) (by exact_mod_cast hjd)
  omega

theorem prod_at {L : List (Nat × Nat)} {lo k : Nat} (h : M.FacFrom lo L) (hk : k < L.length) :
    M.prodP (L.drop k) = L[k].1 ^ L[k].2 * M.prodP (L.drop (k + 1)) ∧ ¬ L[k].1 ∣ M.prodP (L.drop (k + 1)) ∧ 1 ≤ M.prodP (L.drop (k + 1)) ∧ 2 ≤ L[k].1 ∧ 2 ≤ M.prodP (L.drop k) := by
  have hd : L.drop k = L[k] :: L.drop (k + 1) := List.drop_eq_getElem_cons hk
  have hf := h.drop k
  rw [hd] at hf
  refine ⟨by rw [hd]; rfl, hf.2.2.2.not_dvd hf.2.1, hf.2.2.2.pos, hf.2.1.1, ?_⟩
  have h1 := M.dvd_prodP (List.mem_cons_self (a := L[k]) (l := L.drop (k + 1))) hf.2.2.1
  have := Nat.le_of_dvd hf.pos h1
  rw [hd]
  have := hf.2.1.1
  omega

theorem flat_take (L : List (Nat × Nat)) (k : Nat) (h : k < L.length) : flat (L.take (k + 1)) = flat (L.take k) ++ [.int .i64 (L[k].1 : Int), .int .i64 (L[k].2 : Int)] := by
  rw [List.take_succ_eq_append_getElem h, flat_append]; simp [flat]

end Go.Proofs.Ytdidicfmchaloaa