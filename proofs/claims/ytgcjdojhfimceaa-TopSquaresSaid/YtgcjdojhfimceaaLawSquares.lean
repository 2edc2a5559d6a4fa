/- Modulo an odd prime the polynomial x^2 - a is irreducible exactly if a has no square root, and otherwise its factors belong to the root and its negative. No condition. -/
import Derived.Test.YtgcjdojhfimceaaG17
import Derived.ProofKit
import Derived.OpenShut
namespace Go.Proofs.Ytgcjdojhfimceaa.topSquares
open Go.ChangeShapes Go.WideShapes Go.ChangeAt Go.RowKit

theorem own : ownKnob Try.prog.godebug = none := by kernel_rfl

theorem strip1 {L : List FacE} {x : List Nat × Nat} (h : strip L = [x]) : ∃ u, L = [(u, x)] := by
  match L, h with
  | [(u, y)], h => exact ⟨u, by simp [strip] at h; rw [h]⟩

theorem strip2 {L : List FacE} {x y : List Nat × Nat} (h : strip L = [x, y]) : ∃ u v, L = [(u, x), (v, y)] := by
  match L, h with
  | [(u, a), (v, b)], h => exact ⟨u, v, by simp [strip] at h; rw [h.1, h.2]⟩

theorem list_of {w wr : World} {v : Value} {L : List FacE} (h : FcS w wr v L) (h0 : L.length ≠ 0) : ∃ b c, v = .slice (some ⟨b, 0, none⟩) L.length c ∧ ∀ j u, (flatF L)[j]? = some u → wr.cell? ⟨b, j, none⟩ = some u := by
  obtain ⟨_, a, c, hv, _, hcl⟩ := Rd.of_own h.own
  rcases hcl with h1 | ⟨b, rfl, _, hc⟩
  · exact absurd h1 h0
  · exact ⟨b, c, hv, hc⟩

theorem root_zero (p : Nat) (hp : PrI p) (w : World) : Calls Try.prog 6 #[.int .i64 0, .int .i64 (p : Int)] w fun x w' => x = .returned (.tuple #[.int .i64 0, .int .i64 0]) ∧ Below w.heap.size w w' := by
  refine (Root_easy 0 p w (by omega) (by have := hp.1; omega) hp (.inl rfl)).mono ?_
  rintro x w' ⟨r, h1, h2, h3, h4, h5, h6⟩
  have hr : r = 0 := by
    rcases h5 with h | h
    · exact h
    · obtain ⟨R, rfl⟩ := Int.eq_ofNat_of_zero_le h2
      have h7 : R * R % p = 0 := by exact_mod_cast h4
      have hP : M.Pr p := by have := hp.2.2; rwa [Int.toNat_natCast] at this
      have h8 : p ∣ R * R := Nat.dvd_of_mod_eq_zero h7
      have h9 : p ∣ R := by rcases hP.dvd_mul h8 with h | h <;> exact h
      by_cases h0 : R = 0
      · simp [h0]
      · have := Nat.le_of_dvd (by omega) h9; omega
  subst hr
  exact ⟨h1, h6⟩

theorem status {p A : Nat} (hP : M.Pr p) (h3 : 3 ≤ p) (hp2 : p ≤ 1021) (hAp : A < p) (w : World) : Calls Try.prog 6 #[.int .i64 (A : Int), .int .i64 (p : Int)] w fun x w' => ∃ (e : Int) (R : Nat) (is : Bool),
    x = .returned (.tuple #[.int .i64 (R : Int), .int .i64 e]) ∧ Hid (Q.irredP p (Q.sqF p A) = is) ∧ ((e = 6 ∧ is = true ∧ Hid (∀ r, r < p → r * r % p ≠ A)) ∨ (e = 0 ∧ is = false ∧ A = 0) ∨ (e = 0 ∧ is = false ∧ 1 ≤ A ∧ 1 ≤ R ∧ R < p ∧ R ≤ p - R ∧ Hid (R * R % p = A))) ∧ Below w.heap.size w w' := by
  have hpi : PrI p := ⟨by omega, by omega, by rw [Int.toNat_natCast]; exact hP⟩
  by_cases hA0 : A = 0
  · subst hA0
    exact (root_zero p hpi w).mono fun x w' h => ⟨0, 0, false, h.1, Q.sq_irr_some hP (r := 0) (by omega) (by simp), .inr (.inl ⟨rfl, rfl, rfl⟩), h.2⟩
  · cases hpw : (M.pw (A : Int) (((p : Int) - 1) / 2) (p : Int) == 1) with
    | false =>
      have hno := no_square hP h3 (by omega) hpw
      exact (Root_none A p w (by omega) (by omega) (by omega) hpi hpw).mono fun x w' h => ⟨6, 0, true, h.1, Q.sq_irr_none hP hAp hno, .inl ⟨rfl, rfl, hno⟩, h.2⟩
    | true =>
      refine (Root_ok A p w (by omega) (by omega) (by omega) hpi hpw).mono ?_
      rintro x w' ⟨r, g1, g2, g3, g4, g5, g6⟩
      obtain ⟨R, rfl⟩ := Int.eq_ofNat_of_zero_le g2
      have h2 : R * R % p = A := by exact_mod_cast g4
      have h4 : 1 ≤ R := by
        rcases Nat.eq_zero_or_pos R with h | h
        · subst h; simp at h2; omega
        · exact h
      have h1 : R < p := by omega
      exact ⟨0, R, false, g1, Q.sq_irr_some hP h1 h2, .inr (.inr ⟨rfl, rfl, by omega, h4, h1, by omega, h2⟩), g6⟩

set_option maxRecDepth 100000 in
set_option maxHeartbeats 2000000 in
theorem walk (n a : Int) (_wn : (Lit.int .i64 n).wf = true) (_wa : (Lit.int .i64 a).wf = true) (w : World) :
    Calls Try.prog 3 #[.int .i64 n, .int .i64 a] w fun x w' => x = .returned (.bool true) ∧ Below w.heap.size w w' := by
  go_enter Try.func3, Try.ntmps3
  go_wp2_with (fail)
  refine (odd_is n _).mono ?_
  rintro x w1 ⟨⟨p, rfl, hP', h3, hp2⟩, hB1⟩
  have hmb := modv_bd a p (by omega)
  obtain ⟨A, hA⟩ := Int.eq_ofNat_of_zero_le hmb.1
  have hAp : A < p := by rw [hA] at hmb; omega
  have hmod := Lib.hid hA
  have hP := Lib.hid hP'
  have hnm : ((p : Int) - (A : Int)).tmod (p : Int) = ((p - A) % p : Nat) := by
    rw [Int.tmod_eq_emod_of_nonneg (by omega), show ((p : Int) - (A : Int)) = ((p - A : Nat) : Int) by omega]; rfl
  have hnm2 : ((p : Int) - (A : Int)) % (p : Int) = ((p - A) % p : Nat) := by
    rw [show ((p : Int) - (A : Int)) = ((p - A : Nat) : Int) by omega]; rfl
  obtain ⟨m, hm⟩ : ∃ m, m = (p - A) % p := ⟨_, rfl⟩
  have hmp : m < p := by rw [hm]; exact Nat.mod_lt _ (by omega)
  rw [← hm] at hnm hnm2
  have HM := Lib.hid hm
  have hpz : ¬ p = 0 := by omega
  clear hm
  have HB1 := Lib.hid hB1
  clear hB1 hP' hmb hA
  go_wp2_with (go_at_call 5; refine (modT_is a p _ (by omega) (by omega)).mono ?_; rintro x w' ⟨rfl, rfl⟩)
  rw [hmod.out]
  go_wp2_with (fail)
  refine (status hP.out h3 hp2 hAp _).mono ?_
  rintro x w2 ⟨e, R, is, rfl, hirr, hc, hB2⟩
  have HB2 : Hid (Below w.heap.size w w2) := HB1.out.trans (hB2.mono HB1.out.size)
  clear hB2 HB1
  have hl : Hid (Rd (w2.alloc (.cells #[.int .i64 (m : Int), .int .i64 0, .int .i64 1] 3)) (.slice (some ⟨w2.heap.size, 0, none⟩) 3 3) 1 3 (nats (Q.sqF p A))) := by
    have := lit3 w2 m 0 1 3
    show Rd _ _ _ _ _
    unfold Q.sqF
    rw [← HM.out]; exact this
  have HB3 : Hid (Below w.heap.size w (w2.alloc (.cells #[.int .i64 (m : Int), .int .i64 0, .int .i64 1] 3))) := HB2.out.alloc HB2.out.size _
  go_wp2_with (fail)
  refine (Irreducible_ok p (Q.sqF p A) _ _ hP hp2 hl (Q.sqF_pol hP.out.1 A) (by simp [Q.sqF])).mono ?_
  rintro x w4 ⟨rfl, hB4⟩
  rw [hirr.out]
  have hl4 : Hid (Rd w4 (.slice (some ⟨w2.heap.size, 0, none⟩) 3 3) 1 3 (nats (Q.sqF p A))) := hl.out.below hB4 (Nat.le_refl _)
  have HB4 : Hid (Below w.heap.size w w4) := HB3.out.trans (hB4.mono HB3.out.size)
  clear hB4 HB3 hl HB2
  go_wp2_with (fail)
  refine (Factor_sq p A _ _ hP hp2 hl4).mono ?_
  rintro x w5 ⟨v5, L, l, rfl, hf, hfl⟩
  have HB5 : Hid (Below w.heap.size w w5) := HB4.out.trans (hf.below.mono HB4.out.size)
  have HF := Lib.hid hf
  have HFL := Lib.hid hfl
  clear hf hfl HB4 hl4
  have happ : 2 ≤ p := by omega
  rcases hc with ⟨rfl, rfl, hno⟩ | ⟨rfl, rfl, hA0⟩ | ⟨rfl, rfl, hA1, hR1, hR2, hR3, hR4⟩
  · have hL := Q.sq_fac_none hP.out hAp hno.out HFL.out
    obtain ⟨u, rfl⟩ := strip1 hL
    obtain ⟨b, c, rfl, hcb⟩ := list_of HF.out (by simp)
    have c0 := hcb 0 u rfl
    have c1 := hcb 1 (.int .i64 (1 : Nat)) rfl
    obtain ⟨bu, cu, rfl, hcu⟩ := row_of (M := Q.sqF p A) (u := u) (HF.out.rows (u, Q.sqF p A, 1) (by simp)) (by simp [Q.sqF])
    have hln : (Q.sqF p A).length = 3 := rfl
    simp only [List.length_cons, List.length_nil, hln] at c0 c1 ⊢
    clear hcb hcu hL hln
    go_wp2_with (go_at_call 9; refine (two_is _).mono ?_; rintro x w6 ⟨rfl, hB6⟩; have HB6 := Lib.hid hB6; clear hB6)
    go_ret
    exact ⟨rfl, HB5.out.trans (HB6.out.mono HB5.out.size)⟩
  · have hL := Q.sq_fac_zero hP.out (by have := HFL.out; rw [hA0] at this; exact this)
    obtain ⟨u, rfl⟩ := strip1 hL
    obtain ⟨b, c, rfl, hcb⟩ := list_of HF.out (by simp)
    have c0 := hcb 0 u rfl
    have c1 := hcb 1 (.int .i64 (2 : Nat)) rfl
    obtain ⟨bu, cu, rfl, hcu⟩ := row_of (M := [0, 1]) (u := u) (HF.out.rows (u, [0, 1], 2) (by simp)) (by simp)
    have d0 := hcu 0 (by simp)
    have hz : ((A : Int) == 0) = true := by simp [hA0]
    simp only [List.length_cons, List.length_nil, List.getElem_cons_zero] at c0 c1 d0 ⊢
    clear hcb hcu hL hA0
    go_wp2_with (go_at_call 9; refine (two_is _).mono ?_; rintro x w6 ⟨rfl, hB6⟩; have HB6 := Lib.hid hB6; clear hB6)
    go_ret
    exact ⟨rfl, HB5.out.trans (HB6.out.mono HB5.out.size)⟩
  · have hL := Q.sq_fac_two hP.out h3 (by omega) hR2 hR4.out HFL.out
    rw [Nat.min_eq_left hR3, Nat.max_eq_right hR3] at hL
    obtain ⟨u0, u1, rfl⟩ := strip2 hL
    obtain ⟨b, c, rfl, hcb⟩ := list_of HF.out (by simp)
    have c0 := hcb 0 u0 rfl
    have c1 := hcb 1 (.int .i64 (1 : Nat)) rfl
    have c2 := hcb 2 u1 rfl
    have c3 := hcb 3 (.int .i64 (1 : Nat)) rfl
    obtain ⟨bu, cu, rfl, hcu⟩ := row_of (M := [R, 1]) (u := u0) (HF.out.rows (u0, [R, 1], 1) (by simp)) (by simp)
    obtain ⟨bv, cv, rfl, hcv⟩ := row_of (M := [p - R, 1]) (u := u1) (HF.out.rows (u1, [p - R, 1], 1) (by simp)) (by simp)
    have d0 := hcu 0 (by simp)
    have d1 := hcv 0 (by simp)
    have hz : ((A : Int) == 0) = false := by simp; omega
    have hsub : ((p - R : Nat) : Int) = (p : Int) - (R : Int) := by omega
    have hmin : min (R : Int) ((p : Int) - (R : Int)) = (R : Int) := by omega
    have hmax : max (R : Int) ((p : Int) - (R : Int)) = (p : Int) - (R : Int) := by omega
    have hmx2 : ((R : Int) < (p : Int) - (R : Int)) ∨ (R : Int) = (p : Int) - (R : Int) := by omega
    simp only [List.length_cons, List.length_nil, List.getElem_cons_zero, hsub] at c0 c1 c2 c3 d0 d1 ⊢
    clear hcb hcu hcv hL hsub
    go_wp2_with (go_at_call 9; refine (two_is _).mono ?_; rintro x w6 ⟨rfl, hB6⟩; have HB6 := Lib.hid hB6; clear hB6)
    go_ret
    exact ⟨rfl, HB5.out.trans (HB6.out.mono HB5.out.size)⟩

set_option maxRecDepth 100000 in
theorem lifted (os : Os) (started : os.Started) (H : Type) (enc : TypeId × Value → H) :
    ReturnsInHanded {} Try.checked os 3 .any (Rows.topSquaresSpec.pre6 enc Try.prog Try.f3 Rows.topSquaresRow.domain false) (Rows.topSquaresSpec.post enc Try.prog Try.f3 false true false false) := by
  refine returnsInHanded_of_change (C := Try.checked) own started (by kernel_rfl) Try.func3
    (ChangeSpec.witness6 (enc := enc) (C := Try.checked) false ⟨#[], #[.int .i64 0, .int .i64 0], []⟩ 8 (by kernel_rfl) (by kernel_rfl) (by kernel_rfl) (by kernel_rfl)) ?_
  intro W base args ds gs before hval0 hW hcnd _
  have hval : ∀ (j : Nat) t v, Try.f3.params[j]? = some t → args[j]? = some v → Value.okWide Try.prog W .any base t v := hval0
  have hW' := hW
  obtain ⟨p, q, hA0, hV, rfl, hfz, hnd⟩ := hW
  have hA : DataW.TrodAll enc Try.prog W 0 (fun _ => true) true Try.f3.params.toList args.toList ds p := hA0
  rw [Try.params3] at hA hval
  obtain ⟨v0, vs0, d0, ds0, p0, q0, hargs, rfl, rfl, h0, r0⟩ := trodAll_cons hA
  obtain ⟨v1, vs1, d1, ds1, p1, q1, rfl, rfl, rfl, h1, r1⟩ := trodAll_cons r0
  obtain ⟨rfl, rfl, rfl⟩ := trodAll_nil r1
  obtain rfl : args = #[v0, v1] := by cases args; simp_all
  obtain ⟨rfl, rfl⟩ := trodVars_none hV
  obtain ⟨a0, rfl, rfl, rfl, w0⟩ := open_int Try.underlying3 (hval 0 3 v0 rfl rfl) h0
  obtain ⟨a1, rfl, rfl, rfl, w1⟩ := open_int Try.underlying3 (hval 1 3 v1 rfl rfl) h1
  clear hA0 hval0
  simp only [List.append_nil] at hW'
  refine (walk a0 a1 w0 w1 W).mono fun e W' ⟨he, hg⟩ => ?_
  subst he
  exact ⟨_, rfl, _, _, _, [], [], [], hW', trodAll_cons_mk (shut_bool Try.underlying4 _) trodAll_mk0, trodAll_cons_mk (shut_int Try.underlying3 w0) (trodAll_cons_mk (shut_int Try.underlying3 w1) trodAll_mk0), rfl, hg.frame _, fun h => by cases h⟩

theorem over : Rows.topSquaresRow.holds Try.pinned (OpenSpec.ofChange Rows.topSquaresSpec) :=
  OpenClaim.holds_of_wide 3 Try.f3 rfl rfl rfl rfl rfl rfl rfl ⟨rfl, rfl, rfl, rfl, rfl⟩ rfl rfl rfl rfl rfl (by kernel_rfl) Try.func3 (by kernel_rfl)
    (of_decide_eq_true (by kernel_rfl)) (by unfold Func.isWrapper; first | (rw [if_pos (by decide +kernel)]; kernel_rfl) | (rw [if_neg (by decide +kernel)]; exact ⟨rfl, rfl⟩))
    (fun os started H enc _ => lifted os started H enc)

theorem proved : Rows.TopSquaresSaid := over

end Go.Proofs.Ytgcjdojhfimceaa.topSquares
