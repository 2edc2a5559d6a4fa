/- The walks over Decide where no proof is wanted, and over the law's own few questions ('awake'). -/
import Derived.Test.YtldfbadcigdbkaaWalkCommon
namespace Go.Proofs.Ytldfbadcigdbkaa
open Go.RowKit

theorem bcell {W w1 : World} (hb : Below W.heap.size W w1) : (∀ b o, b < W.heap.size → w1.cell? ⟨b, o, none⟩ = W.cell? ⟨b, o, none⟩) ∧ (∀ b o, b < W.heap.size → w1.frozen? ⟨b, o, none⟩ = W.frozen? ⟨b, o, none⟩) :=
  ⟨fun b o h => hb.cell (p := ⟨b, o, none⟩) h, fun b o h => hb.frozen (p := ⟨b, o, none⟩) h⟩

def verdict (d : Int) (v : Value) (e : Int) : Value := .tuple #[.agg #[.int .i64 d, v], .int .i64 e]

theorem Decide_arg (n : Int) (w : World) (h : n < 1 ∨ 2147483647 < n) :
    Calls Try.prog 6 #[.int .i64 n] w fun x w' => x = .returned (verdict 0 (.slice none 0 0) 2) ∧ Below w.heap.size w w' := by
  go_enter Try.func6, Try.ntmps6
  go_wp2_with (go_at_call 17; refine (isNumber_no _ _ h).mono ?_; rintro e w' ⟨rfl, rfl⟩)
  exact bodyPost_ret (v := verdict 0 (.slice none 0 0) 2) (by simp [verdict, results, Try.results6, go_sem]) rfl ⟨rfl, (Below.refl _ _).alloc (Nat.le_refl _) _⟩

theorem Decide_one (w : World) :
    Calls Try.prog 6 #[.int .i64 1] w fun x w' => x = .returned (verdict 1 (.slice none 0 0) 0) ∧ Below w.heap.size w w' := by
  go_enter Try.func6, Try.ntmps6
  go_wp2_with (go_at_call 17; refine (isNumber_yes _ _ (by omega) (by omega)).mono ?_; rintro e w' ⟨rfl, rfl⟩)
  exact bodyPost_ret (v := verdict 1 (.slice none 0 0) 0) (by simp [verdict, results, Try.results6, go_sem]) rfl ⟨rfl, (Below.refl _ _).alloc (Nat.le_refl _) _⟩

set_option maxRecDepth 100000 in
set_option maxHeartbeats 1000000 in
theorem Decide_div (n q : Nat) (w : World) (hn : 2 ≤ n) (hn2 : n ≤ 2147483647) (hq : q < n) (hL : Hid (∃ e t, M.IsFac n ((q, e) :: t))) :
    Calls Try.prog 6 #[.int .i64 n] w fun x w' => x = .returned (verdict q (.slice none 0 0) 0) ∧ Below w.heap.size w w' := by
  obtain ⟨e, t, hL1⟩ := hL.out
  have HL : Hid (M.IsFac (n : Int).toNat ((q, e) :: t)) := by rw [Int.toNat_natCast]; exact hL1
  have hz : ((n : Int) == 1) = false := by simp; omega
  clear hL1 hL
  go_enter Try.func6, Try.ntmps6
  go_wp2_with (go_at_call 17; refine (isNumber_yes _ _ (by omega) (by omega)).mono ?_; rintro e w' ⟨rfl, rfl⟩)
  refine (factors_any n _ _ (by omega) (by omega) HL).mono ?_
  rintro x w1 ⟨⟨vf, rfl, hown⟩, hB1⟩
  have hrd := Rd.of_own hown
  clear hown
  obtain ⟨hfl, a, cap, rfl, hcap, hcell⟩ := hrd
  rcases hcell with h0 | ⟨b, rfl, hb, hcell⟩
  · simp at h0
  have c0 := hcell 0 (.int .i64 (q : Int)) (by simp [flat])
  obtain ⟨hc, hf⟩ := bcell hB1
  have hz1 : w.heap.size < w1.heap.size := by have := hB1.size; simp at this; omega
  have HB := Lib.hid hB1
  clear hcell hfl hB1 hcap
  simp only [List.length_cons]
  go_wp2_with (fail)
  refine bodyPost_ret (v := verdict q (.slice none 0 0) 0) (by simp [verdict, results, Try.results6, go_sem, hc]) rfl ⟨rfl, ?_⟩
  have h1 := ((Below.refl w.heap.size w).alloc (Nat.le_refl _) _).trans (HB.out.mono (by simp))
  repeat first | exact h1 | refine Below.setCell ?_ (by simp) _

theorem pr_of {n : Nat} (h2 : 2 ≤ n) (h : ∀ d, d < n → 2 ≤ d → n % d ≠ 0) : M.Pr n := by
  refine ⟨h2, fun d hd => ?_⟩
  have hd0 : 0 < d := Nat.pos_of_dvd_of_pos hd (by omega)
  have hle := Nat.le_of_dvd (by omega) hd
  by_cases h1 : d = 1
  · exact .inl h1
  · by_cases hn : d = n
    · exact .inr hn
    · exact absurd (Nat.mod_eq_zero_of_dvd hd) (h d (by omega) (by omega))

theorem pr2 : M.Pr 2 := pr_of (by omega) (by decide)
theorem pr3 : M.Pr 3 := pr_of (by omega) (by decide)
theorem pr7 : M.Pr 7 := pr_of (by omega) (by decide)

theorem Root27 (w : World) : Calls Try.prog 21 #[.int .i64 2, .int .i64 7] w fun x w' => x = .returned (.tuple #[.int .i64 3, .int .i64 0]) ∧ Below w.heap.size w w' := by
  refine (Root_ok 2 7 w (by omega) (by omega) (by omega) ⟨by omega, by omega, pr7⟩ (by decide)).mono fun x w' h => ?_
  obtain ⟨r, h1, h2, h3, h4, h5, h6⟩ := h
  have : r = 3 := by
    rcases (show r = 0 ∨ r = 1 ∨ r = 2 ∨ r = 3 by omega) with rfl | rfl | rfl | rfl
    · simp at h4
    · simp at h4
    · simp at h4
    · rfl
  subst this
  exact ⟨h1, h6⟩

theorem ord37 : M.IsOrd 3 6 7 := ⟨by omega, by decide, by
  intro k h1 h2
  have : ∀ k, k < 6 → 1 ≤ k → 3 ^ k % 7 ≠ 1 % 7 := by decide
  exact this k h2 h1⟩

theorem Log367 (w : World) : Calls Try.prog 22 #[.int .i64 3, .int .i64 6, .int .i64 7] w fun x w' => x = .returned (.tuple #[.int .i64 3, .int .i64 0]) ∧ Below w.heap.size w w' :=
  Log_ok 3 6 7 6 3 w (by omega) (by omega) (by omega) (by omega) ⟨by omega, by omega, pr7⟩ ord37 (by omega) (by omega) (show 6 = 3 ^ 3 % 7 by decide)

theorem Common235 (b1 b2 : Nat) (w : World) (h1 : b1 < w.heap.size) (h2 : b2 < w.heap.size) (c1 : w.cell? ⟨b1, 0, none⟩ = some (.int .i64 2)) (c2 : w.cell? ⟨b1, 1, none⟩ = some (.int .i64 3)) (c3 : w.cell? ⟨b2, 0, none⟩ = some (.int .i64 3)) (c4 : w.cell? ⟨b2, 1, none⟩ = some (.int .i64 5)) :
    Calls Try.prog 16 #[.slice (some ⟨b1, 0, none⟩) 2 2, .slice (some ⟨b2, 0, none⟩) 2 2] w fun x w' => x = .returned (.tuple #[.int .i64 8, .int .i64 15, .int .i64 0]) ∧ Below w.heap.size w w' := by
  refine (Common_ok [(2, 3), (3, 5)] _ _ (some (8, 15)) w ⟨rfl, _, _, rfl, by simp, .inr ⟨b1, rfl, h1, ?_⟩⟩ ⟨rfl, _, _, rfl, by simp, .inr ⟨b2, rfl, h2, ?_⟩⟩ ⟨by simp, ?_⟩ (show M.small 1 [3, 5] = true by decide) (show M.crt 0 1 [(2, 3), (3, 5)] = some (8, 15) by decide)).mono ?_
  · intro j u hj
    match j, hj with
    | 0, hj => simp [ints, firsts] at hj; subst hj; exact c1
    | 1, hj => simp [ints, firsts] at hj; subst hj; exact c2
    | j + 2, hj => simp [ints, firsts] at hj
  · intro j u hj
    match j, hj with
    | 0, hj => simp [ints, seconds] at hj; subst hj; exact c3
    | 1, hj => simp [ints, seconds] at hj; subst hj; exact c4
    | j + 2, hj => simp [ints, seconds] at hj
  · intro x hx
    simp at hx
    rcases hx with rfl | rfl <;> simp
  · rintro e w' ⟨h, n, rfl⟩
    exact ⟨h, below_drewN (Below.refl _ _) _⟩

theorem fac9 : M.IsFac 9 [(3, 2)] := ⟨⟨by omega, pr3, by omega, trivial⟩, rfl⟩
theorem fac12 : M.IsFac 12 [(2, 2), (3, 1)] := ⟨⟨by omega, pr2, by omega, by omega, pr3, by omega, trivial⟩, rfl⟩

set_option maxRecDepth 100000 in
set_option maxHeartbeats 4000000 in
theorem awake_is (w : World) : Calls Try.prog 9 #[] w fun x w' => x = .returned (.bool true) ∧ Below w.heap.size w w' := by
  go_enter Try.func9, Try.ntmps9
  go_wp2_with (fail)
  refine (Root27 _).mono ?_
  rintro e w1 ⟨rfl, hB1⟩
  have HB1 := Lib.hid hB1
  clear hB1
  go_wp2_with (fail)
  refine (Log367 _).mono ?_
  rintro e w2 ⟨rfl, hB2⟩
  have HB2 := Lib.hid (HB1.out.trans (hB2.mono HB1.out.size))
  clear hB2
  go_wp2_with (fail)
  refine (Common235 w2.heap.size (w2.heap.size + 1) _ (by simp; omega) (by simp) (by simp) (by simp) (by simp) (by simp)).mono ?_
  rintro e w3 ⟨rfl, hB3⟩
  have HB3 := Lib.hid (((HB2.out.alloc HB2.out.size _).alloc (by have := HB2.out.size; simp; omega) _).trans (hB3.mono (by have := HB2.out.size; simp; omega)))
  clear hB3
  go_wp2_with (fail)
  refine (Decide_div 9 3 _ (by omega) (by omega) (by omega) ⟨2, [], fac9⟩).mono ?_
  rintro e w4 ⟨rfl, hB4⟩
  have HB4 := Lib.hid (HB3.out.trans (hB4.mono HB3.out.size))
  clear hB4
  simp only [verdict]
  go_wp2_with (fail)
  refine (Factor_yes 12 _ _ (by omega) (by omega) fac12).mono ?_
  rintro e w5 ⟨⟨v, rfl, hown⟩, hB5⟩
  have hrd := Rd.of_own hown
  clear hown
  obtain ⟨hfl, a, cap, rfl, hcap, hcell⟩ := hrd
  rcases hcell with h0 | ⟨b, rfl, hb, hcell⟩
  · simp at h0
  have d0 := hcell 0 (.int .i64 2) (by simp [flat])
  have d1 := hcell 1 (.int .i64 2) (by simp [flat])
  obtain ⟨hc, hf⟩ := bcell hB5
  have hz1 : w4.heap.size < w5.heap.size := by have := hB5.size; simp at this; omega
  have HB5 := Lib.hid ((HB4.out.alloc HB4.out.size _).trans (hB5.mono (by have := HB4.out.size; simp; omega)))
  clear hB5 hcell hfl hcap
  go_wp2_with (fail)
  go_ret
  exact ⟨rfl, HB5.out⟩

end Go.Proofs.Ytldfbadcigdbkaa
